package device_test

import (
	"bytes"
	"math"
	"math/rand"
	"reflect"
	"slices"
	"testing"

	"keelson/api"
	"keelson/device"
)

// plain is a device that no call made.
func plain() *device.Device {
	return &device.Device{}
}

// some is bytes that are no noughts, other ones for each first one.
func some(first byte, n int) []byte {
	b := make([]byte, n)
	for i := range b {
		b[i] = 1 + (first+byte(i%200))%250
	}
	return b
}

func sectorOf(b byte) []byte {
	return bytes.Repeat([]byte{b}, api.SectorLen)
}

func is(t *testing.T, what string, got, want api.Errno) {
	t.Helper()
	if got != want {
		t.Errorf("%s: %d, not %d", what, int(got), int(want))
	}
}

func writes(t *testing.T, d *device.Device, at int, b []byte) {
	t.Helper()
	is(t, "a write", d.Write(at, b), api.OK)
}

func flushes(t *testing.T, d *device.Device) {
	t.Helper()
	is(t, "a flush", d.Flush(), api.OK)
}

// all is what is read of all sectors.
func all(t *testing.T, d *device.Device) []byte {
	t.Helper()
	b, e := d.Read(0, d.Sectors())
	is(t, "reading all", e, api.OK)
	return b
}

func holds(t *testing.T, what string, d *device.Device, at int, want []byte) {
	t.Helper()
	b, e := d.Read(at, device.Need(len(want)))
	if e != api.OK || !bytes.Equal(b, want) {
		t.Errorf("%s: %v, %d, not %v", what, b, int(e), want)
	}
}

func refuses(t *testing.T, what string, d *device.Device, at, n int, want api.Errno) {
	t.Helper()
	if b, e := d.Read(at, n); e != want || len(b) != 0 {
		t.Errorf("%s: %d bytes, %d, not %d", what, len(b), int(e), int(want))
	}
}

// counts is what a device tells beside its bytes.
func counts(t *testing.T, what string, d *device.Device, down bool, loose, done int) {
	t.Helper()
	if d.Down() != down || d.Loose() != loose || d.Done() != done {
		t.Errorf("%s: down %v, loose %d, done %d, not %v, %d, %d", what, d.Down(), d.Loose(), d.Done(), down, loose, done)
	}
}

// padded is b with noughts up to the end of its last sector.
func padded(b []byte) []byte {
	b = bytes.Clone(b)
	for len(b)%api.SectorLen != 0 {
		b = append(b, 0)
	}
	return b
}

// P7.1

func TestNew(t *testing.T) {
	for _, n := range []int{math.MinInt, -1, 0, api.MaxSectors + 1, math.MaxInt} {
		if d := device.New(n); d != nil {
			t.Errorf("%d sectors: a device of %d", n, d.Sectors())
		}
	}
	for _, n := range []int{1, 2, 63, api.MaxSectors - 1, api.MaxSectors} {
		d := device.New(n)
		if d == nil || d.Sectors() != n {
			t.Fatalf("%d sectors: %v", n, d)
		}
		counts(t, "a new one", d, false, 0, 0)
		if b := all(t, d); !bytes.Equal(b, make([]byte, n*api.SectorLen)) {
			t.Errorf("%d sectors: they are not of noughts alone", n)
		}
	}
}

func TestTheGreatestDevice(t *testing.T) {
	d := device.New(api.MaxSectors)
	b := make([]byte, api.MaxSectors*api.SectorLen)
	rand.New(rand.NewSource(1)).Read(b)
	writes(t, d, 0, b)
	if !bytes.Equal(all(t, d), b) {
		t.Error("what waits is not read")
	}
	for at := range api.MaxSectors {
		holds(t, "a sector", d, at, b[at*api.SectorLen:][:api.SectorLen])
	}
	flushes(t, d)
	if !bytes.Equal(all(t, d), b) {
		t.Error("what is safe is not read")
	}
	writes(t, d, api.MaxSectors-1, sectorOf(7))
	holds(t, "the last one", d, api.MaxSectors-1, sectorOf(7))
	is(t, "behind the last one", d.Write(api.MaxSectors, []byte{1}), api.ErrRange)
	is(t, "over the end", d.Write(1, b), api.ErrRange)
	is(t, "more than there is", d.Write(0, append(b, 1)), api.ErrRange)
}

func TestNeed(t *testing.T) {
	for n := -3; n < 400; n++ {
		want := 0
		for have := 0; have < n; have += 64 {
			want++
		}
		if got := device.Need(n); got != want {
			t.Errorf("%d bytes: %d sectors, not %d", n, got, want)
		}
	}
	for n, want := range map[int]int{math.MinInt: 0, math.MaxInt: 1 << 57, math.MaxInt - 62: 1 << 57, math.MaxInt - 63: 1<<57 - 1, 1 << 40: 1 << 34} {
		if got := device.Need(n); got != want {
			t.Errorf("%d bytes: %d sectors, not %d", n, got, want)
		}
	}
}

func TestADeviceThatIsNil(t *testing.T) {
	var d *device.Device
	d.Fuse(0)
	d.Crash()
	d.Crash(1, 2)
	for _, n := range []int{-1, 0, 1} {
		for _, b := range [][]byte{nil, {}, {1}, some(1, 65)} {
			is(t, "Write", d.Write(n, b), api.ErrNil)
		}
		for _, at := range []int{-1, 0, 1} {
			refuses(t, "Read", d, at, n, api.ErrNil)
		}
	}
	is(t, "Flush", d.Flush(), api.ErrNil)
	counts(t, "nil", d, false, 0, 0)
	if d.Sectors() != 0 || d.Clone() != nil {
		t.Error("it has sectors, or a clone")
	}
}

func TestADeviceThatNoCallMade(t *testing.T) {
	d := plain()
	if d.Sectors() != 0 {
		t.Errorf("it has %d sectors", d.Sectors())
	}
	is(t, "Write of nothing", d.Write(0, nil), api.OK)
	refuses(t, "Read of nothing", d, 0, 0, api.OK)
	for _, at := range []int{-1, 0, 1} {
		is(t, "Write of a byte", d.Write(at, []byte{1}), api.ErrRange)
		refuses(t, "Read of a sector", d, at, 1, api.ErrRange)
	}
	is(t, "Write of nothing behind the end", d.Write(1, nil), api.ErrRange)
	flushes(t, d)
	counts(t, "a flush", d, false, 0, 1)
	d.Crash(1, 2, 3)
	if c := d.Clone(); c == nil || c == d || !device.Same(c, d) || c.Sectors() != 0 {
		t.Error("it has no clone")
	}
	if !device.Same(plain(), plain()) || device.Same(plain(), nil) || device.Same(nil, plain()) || device.Same(plain(), device.New(1)) {
		t.Error("who is the same as one without sectors")
	}
}

// P7.2

func TestWriteOfEachLength(t *testing.T) {
	for n := range 4*api.SectorLen + 1 {
		d := device.New(6)
		writes(t, d, 0, bytes.Repeat(sectorOf(255), 6))
		flushes(t, d)
		b := some(byte(n), n)
		writes(t, d, 1, b)
		sectors := (n + 63) / 64
		counts(t, "a write", d, false, sectors, 7+sectors)
		want := append(sectorOf(255), padded(b)...)
		want = append(want, bytes.Repeat(sectorOf(255), 5-sectors)...)
		if !bytes.Equal(all(t, d), want) {
			t.Errorf("%d bytes: what is read is another thing", n)
		}
		flushes(t, d)
		counts(t, "a flush", d, false, 0, 8+sectors)
		if !bytes.Equal(all(t, d), want) {
			t.Errorf("%d bytes: what is safe is another thing", n)
		}
	}
}

func TestWriteAtEachPlace(t *testing.T) {
	for _, sectors := range []int{1, 2, 3} {
		for _, at := range []int{math.MinInt, -1, 0, 1, 2, 3, 4, math.MaxInt - 1, math.MaxInt} {
			for _, n := range []int{0, 1, 63, 64, 65, 127, 128, 129, 192, 193, 1000} {
				d := device.New(sectors)
				need := (n + 63) / 64
				want := api.OK
				if at < 0 || at > sectors || need > sectors-at {
					want, need = api.ErrRange, 0
				}
				is(t, "a write", d.Write(at, some(3, n)), want)
				counts(t, "a write", d, false, need, need)
				if want != api.OK && !device.Same(d, device.New(sectors)) {
					t.Errorf("%d bytes at %d of %d sectors: it wrote something", n, at, sectors)
				}
			}
		}
	}
}

func TestReadAtEachPlace(t *testing.T) {
	for _, sectors := range []int{1, 2, 5} {
		d := device.New(sectors)
		b := some(9, sectors*api.SectorLen)
		writes(t, d, 0, b)
		numbers := []int{math.MinInt, -1, 0, 1, 2, 3, 4, 5, 6, math.MaxInt - 1, math.MaxInt}
		for _, at := range numbers {
			for _, n := range numbers {
				if at < 0 || n < 0 || at > sectors || n > sectors-at {
					refuses(t, "outside", d, at, n, api.ErrRange)
				} else {
					got, e := d.Read(at, n)
					if e != api.OK || !bytes.Equal(got, b[at*64:(at+n)*64]) {
						t.Errorf("%d sectors from %d on: %v, %d", n, at, got, int(e))
					}
				}
			}
		}
		counts(t, "reading", d, false, sectors, sectors)
	}
}

func TestASectorWrittenTwice(t *testing.T) {
	d := device.New(3)
	writes(t, d, 1, sectorOf(1))
	flushes(t, d)
	writes(t, d, 1, sectorOf(2))
	holds(t, "the first change", d, 1, sectorOf(2))
	writes(t, d, 1, []byte{3})
	holds(t, "the second change", d, 1, padded([]byte{3}))
	counts(t, "both wait", d, false, 2, 4)
	crashed := d.Clone()
	flushes(t, d)
	holds(t, "behind a flush", d, 1, padded([]byte{3}))
	d.Crash()
	holds(t, "behind a flush and a crash", d, 1, padded([]byte{3}))
	crashed.Crash(64)
	holds(t, "the first change alone is kept", crashed, 1, sectorOf(2))
}

func TestNoughtsOverOtherBytes(t *testing.T) {
	d := device.New(2)
	writes(t, d, 0, bytes.Repeat(sectorOf(9), 2))
	flushes(t, d)
	writes(t, d, 0, sectorOf(0))
	holds(t, "noughts that wait", d, 0, sectorOf(0))
	kept := d.Clone()
	kept.Crash(10)
	holds(t, "some noughts", kept, 0, append(make([]byte, 10), sectorOf(9)[10:]...))
	flushes(t, d)
	holds(t, "noughts that are safe", d, 0, append(sectorOf(0), sectorOf(9)...))
	d.Crash()
	holds(t, "noughts behind a crash", d, 0, append(sectorOf(0), sectorOf(9)...))
}

func TestWhatIsHandedInAndOut(t *testing.T) {
	d := device.New(3)
	room := some(1, 300)
	before := bytes.Clone(room)
	writes(t, d, 0, room[:70])
	if !bytes.Equal(room, before) {
		t.Error("Write changed what was handed in")
	}
	holds(t, "what lies behind the length is not written", d, 0, append(padded(before[:70]), sectorOf(0)...))
	clear(room)
	holds(t, "it keeps nothing of what was handed in", d, 0, padded(before[:70]))
	flushes(t, d)
	got := all(t, d)
	clear(got[:cap(got)])
	holds(t, "what was handed out is no part of it", d, 0, padded(before[:70]))
	writes(t, d, 2, sectorOf(5))
	got = all(t, d)
	clear(got[:cap(got)])
	holds(t, "nor is what waits", d, 2, sectorOf(5))
	keep := []int{-1, 100, 7}
	d.Crash(keep...)
	if !slices.Equal(keep, []int{-1, 100, 7}) {
		t.Error("Crash changed what was handed in")
	}
}

// P7.3

func TestFlush(t *testing.T) {
	d := device.New(2)
	flushes(t, d)
	counts(t, "nothing waits", d, false, 0, 1)
	writes(t, d, 0, some(1, 100))
	counts(t, "two wait", d, false, 2, 3)
	flushes(t, d)
	counts(t, "they are safe", d, false, 0, 4)
	writes(t, d, 1, some(7, 64))
	d.Crash()
	holds(t, "what was flushed", d, 0, padded(some(1, 100)))
	counts(t, "behind a crash", d, false, 0, 5)
}

// gone tells that nothing can be done, and that nothing is done by it.
func gone(t *testing.T, d *device.Device) {
	t.Helper()
	was, loose, done := d.Clone(), d.Loose(), d.Done()
	for _, at := range []int{-1, 0, 1, 1 << 20} {
		is(t, "Write without power", d.Write(at, []byte{1}), api.ErrDown)
		is(t, "Write of nothing without power", d.Write(at, nil), api.ErrDown)
		refuses(t, "Read without power", d, at, 1, api.ErrDown)
		refuses(t, "Read of nothing without power", d, at, 0, api.ErrDown)
	}
	is(t, "Flush without power", d.Flush(), api.ErrDown)
	counts(t, "without power", d, true, loose, done)
	if !device.Same(was, d) {
		t.Error("something was done without power")
	}
}

func TestFuseAtEachChangeOfAWrite(t *testing.T) {
	b := some(1, 200) // of four sectors
	for n := range 4 {
		d := device.New(5)
		d.Fuse(n)
		is(t, "the write", d.Write(1, b), api.ErrDown)
		counts(t, "the power went", d, true, n+1, n+1)
		gone(t, d)
		d.Crash(64, 64, 64, 64, 64)
		counts(t, "the power came", d, false, 0, n+1)
		want := make([]byte, 5*64)
		copy(want[64:], b[:min(64*(n+1), len(b))])
		holds(t, "what came to be", d, 0, want)
		flushes(t, d)
		writes(t, d, 0, b)
		counts(t, "no fuse is left", d, false, 4, n+6)
	}
}

func TestFuseAtAFlush(t *testing.T) {
	d := device.New(2)
	d.Fuse(2)
	writes(t, d, 0, some(1, 128))
	is(t, "the flush", d.Flush(), api.ErrDown)
	counts(t, "the power went", d, true, 2, 3)
	gone(t, d)
	kept := d.Clone()
	d.Crash()
	holds(t, "a flush without power", d, 0, make([]byte, 128))
	kept.Crash(64, 1)
	holds(t, "what is kept all the same", kept, 0, padded(some(1, 65)))
}

func TestFuseBehindAFlush(t *testing.T) {
	d := device.New(2)
	d.Fuse(3)
	writes(t, d, 0, sectorOf(1))
	flushes(t, d)
	flushes(t, d)
	is(t, "the fourth", d.Write(0, sectorOf(2)), api.ErrDown)
	counts(t, "the power went", d, true, 1, 4)
	d.Crash()
	holds(t, "what was flushed", d, 0, sectorOf(1))
}

func TestFuseThatIsNotReached(t *testing.T) {
	for _, n := range []int{math.MinInt, -2, -1, 1 << 40, math.MaxInt} {
		d := device.New(2)
		d.Fuse(n)
		for range 20 {
			writes(t, d, 0, some(1, 128))
			flushes(t, d)
		}
		counts(t, "no power went", d, false, 0, 60)
	}
	d := device.New(2)
	d.Fuse(0)
	writes(t, d, 0, nil)
	is(t, "a write that can't be", d.Write(2, []byte{1}), api.ErrRange)
	refuses(t, "reading what is not there", d, 2, 1, api.ErrRange)
	all(t, d)
	counts(t, "there was no change", d, false, 0, 0)
	is(t, "the first flush", d.Flush(), api.ErrDown)
}

func TestALaterFuseTakesItsPlace(t *testing.T) {
	fused := func(l ...int) *device.Device {
		d := device.New(4)
		for _, n := range l {
			d.Fuse(n)
		}
		return d
	}
	after := func(d *device.Device) int {
		for n := range 10 {
			if d.Flush() != api.OK {
				return n
			}
		}
		return -1
	}
	for _, c := range []struct {
		fuses []int
		want  int
	}{{nil, -1}, {[]int{0}, 0}, {[]int{3}, 3}, {[]int{0, 3}, 3}, {[]int{3, 1}, 1}, {[]int{2, -1}, -1}, {[]int{-1, 2}, 2}, {[]int{math.MaxInt, 0}, 0}, {[]int{0, math.MinInt}, -1}, {[]int{5, 5}, 5}} {
		if got := after(fused(c.fuses...)); got != c.want {
			t.Errorf("%v: it went at %d, not %d", c.fuses, got, c.want)
		}
	}
	d := fused(3)
	flushes(t, d)
	flushes(t, d)
	d.Fuse(2)
	if got := after(d); got != 2 {
		t.Errorf("a fuse is reckoned from where it is laid: %d", got)
	}
	d.Fuse(0) // of no power: Crash takes it away
	d.Crash()
	if got := after(d); got != -1 {
		t.Errorf("behind a crash there is a fuse: %d", got)
	}
	d = fused(1)
	d.Crash()
	if got := after(d); got != -1 {
		t.Errorf("behind a crash with a fuse there is one: %d", got)
	}
}

// P7.4

func TestTheExampleOfTwoChanges(t *testing.T) {
	d := device.New(4)
	writes(t, d, 1, some(1, 70))
	counts(t, "two changes wait", d, false, 2, 2)
	d.Crash(64)
	holds(t, "the first alone is there", d, 0, append(append(sectorOf(0), some(1, 64)...), make([]byte, 128)...))
	counts(t, "nothing waits", d, false, 0, 2)
}

func TestCrashWithEachKeep(t *testing.T) {
	old, fresh := sectorOf(200), some(1, 64)
	keeps := []int{math.MinInt, -64, -1, 65, 1000, math.MaxInt}
	for n := range 65 {
		keeps = append(keeps, n)
	}
	for _, keep := range keeps {
		d := device.New(1)
		writes(t, d, 0, old)
		flushes(t, d)
		writes(t, d, 0, fresh)
		d.Crash(keep)
		n := min(max(keep, 0), 64)
		holds(t, "a beginning of it", d, 0, append(slices.Clone(fresh[:n]), old[n:]...))
		counts(t, "behind a crash", d, false, 0, 3)
		d.Crash(64)
		holds(t, "once more", d, 0, append(slices.Clone(fresh[:n]), old[n:]...))
	}
}

func TestCrashWithMoreAndFewerKeeps(t *testing.T) {
	for _, keep := range [][]int{nil, {}, {64}, {-5, 3}, {64, 10, 64}, {1, 2, 3, 4}, {1, 2, 3, 4, 5, 6, 7}, {64, 64, 64, 64}} {
		d := device.New(3)
		var want [3 * 64]byte
		for i, at := range []int{2, 0, 2, 1} {
			b := some(byte(50*i), 64)
			writes(t, d, at, b)
			if i < len(keep) {
				copy(want[at*64:], b[:max(keep[i], 0)])
			}
		}
		d.Crash(keep...)
		holds(t, "what is kept", d, 0, want[:])
		counts(t, "what waits", d, false, 0, 4)
	}
}

func TestCrashPutsChangesOverOneAnother(t *testing.T) {
	d := device.New(1)
	writes(t, d, 0, sectorOf(1))
	writes(t, d, 0, sectorOf(2))
	writes(t, d, 0, sectorOf(3))
	d.Crash(30, 20, 10)
	want := slices.Concat(sectorOf(3)[:10], sectorOf(2)[:10], sectorOf(1)[:10], sectorOf(0)[:34])
	holds(t, "all three", d, 0, want)
	writes(t, d, 0, sectorOf(4))
	writes(t, d, 0, sectorOf(5))
	d.Crash(10, 64)
	holds(t, "the last one over all", d, 0, sectorOf(5))
}

func TestCrashWithPower(t *testing.T) {
	d := device.New(2)
	d.Crash()
	counts(t, "of a new one", d, false, 0, 0)
	writes(t, d, 0, sectorOf(1))
	d.Fuse(1)
	d.Crash(5)
	counts(t, "with a fuse", d, false, 0, 1)
	holds(t, "with a fuse", d, 0, padded(sectorOf(1)[:5]))
	flushes(t, d)
	flushes(t, d)
	flushes(t, d)
}

func TestDone(t *testing.T) {
	d := device.New(4)
	writes(t, d, 0, nil)
	writes(t, d, 4, nil)
	counts(t, "nothing", d, false, 0, 0)
	writes(t, d, 0, some(1, 200))
	writes(t, d, 0, some(1, 1))
	flushes(t, d)
	counts(t, "five changes and a flush", d, false, 0, 6)
	d.Crash()
	d.Fuse(1)
	is(t, "the write", d.Write(0, some(2, 256)), api.ErrDown)
	counts(t, "and two changes", d, true, 2, 8)
	is(t, "a flush without power", d.Flush(), api.ErrDown)
	d.Crash()
	counts(t, "a crash is none", d, false, 0, 8)
}

func TestCloneIsChangedOnItsOwn(t *testing.T) {
	made := func() *device.Device {
		d := device.New(3)
		writes(t, d, 0, some(1, 128))
		flushes(t, d)
		writes(t, d, 1, sectorOf(9))
		writes(t, d, 2, sectorOf(8))
		d.Fuse(3)
		return d
	}
	changes := []func(d *device.Device){
		func(d *device.Device) { d.Write(0, sectorOf(77)) },
		func(d *device.Device) { d.Write(1, sectorOf(77)) },
		func(d *device.Device) { d.Flush() },
		func(d *device.Device) { d.Crash() },
		func(d *device.Device) { d.Crash(64, 64, 64) },
		func(d *device.Device) { d.Fuse(0); d.Flush() },
		func(d *device.Device) { d.Flush(); d.Write(0, sectorOf(0)); d.Flush() },
	}
	tells := func(what string, d, was *device.Device) {
		t.Helper()
		if !device.Same(d, was) || d.Done() != was.Done() || d.Sectors() != was.Sectors() {
			t.Errorf("%s: it is another one", what)
		}
		counts(t, what, d, was.Down(), was.Loose(), was.Done())
		if !d.Down() && !bytes.Equal(all(t, d), all(t, was)) {
			t.Errorf("%s: other bytes", what)
		}
	}
	for _, change := range changes {
		d := made()
		c := d.Clone()
		tells("a clone", c, made())
		change(c)
		tells("the first, its clone being changed", d, made())
		d, c = made(), nil
		c = d.Clone()
		change(d)
		tells("a clone, the first being changed", c, made())
		want := made()
		change(want)
		change(c)
		tells("both changed alike", c, want)
		tells("both changed alike", d, want)
	}
}

func TestCloneSharesNoRoomForWhatWaits(t *testing.T) {
	for waits := range 9 {
		d := device.New(1)
		for range waits {
			writes(t, d, 0, sectorOf(9))
		}
		c := d.Clone()
		writes(t, d, 0, sectorOf(1))
		writes(t, c, 0, sectorOf(2))
		holds(t, "what waits of the first", d, 0, sectorOf(1))
		holds(t, "what waits of its clone", c, 0, sectorOf(2))
		keep := append(make([]int, waits), 64)
		d.Crash(keep...)
		c.Crash(keep...)
		holds(t, "what is kept of the first", d, 0, sectorOf(1))
		holds(t, "what is kept of its clone", c, 0, sectorOf(2))
	}
}

func TestCloneHasTheFuse(t *testing.T) {
	d := device.New(1)
	d.Fuse(1)
	c := d.Clone()
	flushes(t, d)
	flushes(t, c)
	is(t, "the fuse", d.Flush(), api.ErrDown)
	is(t, "the clone's fuse", c.Flush(), api.ErrDown)
	down := d.Clone()
	gone(t, down)
	down.Crash()
	counts(t, "the clone's power came", down, false, 0, 2)
	gone(t, d)
}

// P7.4, Same

func same(t *testing.T, what string, a, b *device.Device, want bool) {
	t.Helper()
	if device.Same(a, b) != want || device.Same(b, a) != want {
		t.Errorf("%s: not %v", what, want)
	}
}

func TestSame(t *testing.T) {
	same(t, "nil and nil", nil, nil, true)
	same(t, "nil and one", nil, device.New(1), false)
	same(t, "two new ones", device.New(3), device.New(3), true)
	same(t, "of other sizes", device.New(3), device.New(2), false)
	d := device.New(3)
	same(t, "itself", d, d, true)
	made := func(l ...int) *device.Device { // a sector that is written, and with what; below 0: a flush
		d := device.New(3)
		for _, x := range l {
			if x < 0 {
				flushes(t, d)
			} else {
				writes(t, d, x/1000, sectorOf(byte(x%1000)))
			}
		}
		return d
	}
	same(t, "what waits", made(1001, 2002), made(1001, 2002), true)
	same(t, "the order of what waits", made(1001, 2002), made(2002, 1001), false)
	same(t, "the order of what waits of one sector", made(1001, 1002, 1001), made(1002, 1001, 1001), false)
	same(t, "more waits", made(1001), made(1001, 1001), false)
	same(t, "other bytes wait", made(1001), made(1002), false)
	same(t, "another sector waits", made(1001), made(2001), false)
	same(t, "one waits, and is safe", made(1001), made(1001, -1), false)
	same(t, "one waits over what is safe", made(1001, -1, 1001), made(1001, -1), false)
	same(t, "the order of what is safe", made(1001, 2002, -1), made(2002, -1, 1007, 1001, -1), true)
	same(t, "other bytes are safe", made(1001, -1), made(1002, -1), false)
	same(t, "another sector is safe", made(1001, -1), made(2001, -1), false)
	same(t, "one more is safe", made(1001, -1), made(1001, 2001, -1), false)
	same(t, "noughts that were written", made(1000, -1), made(), true)
	same(t, "noughts over other bytes", made(1001, -1, 1000, -1), made(), true)
	same(t, "noughts that wait", made(1000), made(), false)
	same(t, "what waits is the same, what is safe isn't", made(1001, -1, 1002), made(1003, -1, 1002), false)
	same(t, "flushes are not counted", made(-1, -1, 1001), made(1001), true)
}

func TestSameOfTheLastByte(t *testing.T) {
	for _, at := range []int{0, 2} {
		for _, i := range []int{0, 31, 63} {
			a, b := device.New(3), device.New(3)
			s := sectorOf(6)
			writes(t, a, at, s)
			s[i] = 5
			writes(t, b, at, s)
			same(t, "a byte that waits", a, b, false)
			flushes(t, a)
			flushes(t, b)
			same(t, "a byte that is safe", a, b, false)
		}
	}
}

func TestSameOfThePower(t *testing.T) {
	a, b := device.New(2), device.New(2)
	a.Fuse(0)
	same(t, "a fuse alone", a, b, true)
	is(t, "the flush", a.Flush(), api.ErrDown)
	same(t, "the power alone", a, b, false)
	b.Fuse(1)
	flushes(t, b)
	is(t, "the flush", b.Flush(), api.ErrDown)
	same(t, "no power", a, b, true)
	a.Crash()
	same(t, "the power came to one", a, b, false)
	b.Crash()
	same(t, "the power came to both", a, b, true)
}

func TestSameBehindACrash(t *testing.T) {
	a, b := device.New(2), device.New(2)
	writes(t, a, 1, some(1, 40))
	flushes(t, a)
	writes(t, b, 0, sectorOf(3))
	writes(t, b, 1, some(1, 64))
	b.Crash(0, 40)
	same(t, "the same bytes by other ways", a, b, true)
	writes(t, a, 1, sectorOf(0))
	a.Crash(64)
	same(t, "noughts that were kept", a, device.New(2), true)
}

// The whole, against a telling of the tests' own.

type waiting struct {
	at int
	b  [64]byte
}

type model struct {
	safe  [][64]byte
	waits []waiting
	down  bool
	fuse  int // below 0: none
	done  int
}

func modelOf(sectors int) *model {
	return &model{safe: make([][64]byte, sectors), fuse: -1}
}

func (m *model) clone() *model {
	c := *m
	c.safe, c.waits = slices.Clone(m.safe), slices.Clone(m.waits)
	return &c
}

func (m *model) tick() {
	m.done++
	m.down = m.fuse == 0
	m.fuse = max(m.fuse-1, -1)
}

func (m *model) write(at int, b []byte) api.Errno {
	if m.down {
		return api.ErrDown
	}
	need := (len(b) + 63) / 64
	if at < 0 || at+need > len(m.safe) {
		return api.ErrRange
	}
	for i := range need {
		w := waiting{at: at + i}
		copy(w.b[:], b[i*64:])
		m.waits = append(m.waits, w)
		if m.tick(); m.down {
			return api.ErrDown
		}
	}
	return api.OK
}

func (m *model) flush() api.Errno {
	if m.down {
		return api.ErrDown
	}
	if m.tick(); m.down {
		return api.ErrDown
	}
	for _, w := range m.waits {
		m.safe[w.at] = w.b
	}
	m.waits = nil
	return api.OK
}

func (m *model) crash(keep []int) {
	for i, w := range m.waits {
		for k := range w.b {
			if i < len(keep) && k < keep[i] {
				m.safe[w.at][k] = w.b[k]
			}
		}
	}
	m.waits, m.down, m.fuse = nil, false, -1
}

func (m *model) read() []byte {
	seen := slices.Clone(m.safe)
	for _, w := range m.waits {
		seen[w.at] = w.b
	}
	var b []byte
	for _, s := range seen {
		b = append(b, s[:]...)
	}
	return b
}

// same leaves out what Same leaves out.
func (m *model) same(o *model) bool {
	return m.down == o.down && reflect.DeepEqual(m.safe, o.safe) && (len(m.waits) == 0 && len(o.waits) == 0 || reflect.DeepEqual(m.waits, o.waits))
}

func agrees(t *testing.T, d *device.Device, m *model) {
	t.Helper()
	counts(t, "it", d, m.down, len(m.waits), m.done)
	if m.down {
		refuses(t, "it", d, 0, 1, api.ErrDown)
	} else {
		holds(t, "it", d, 0, m.read())
	}
}

// drawn is a list of bytes of few kinds, so that two may be the same.
func drawn(g *rand.Rand, n int) []byte {
	return bytes.Repeat([]byte{byte(g.Intn(3))}, g.Intn(n))
}

func keeps(g *rand.Rand) []int {
	l := make([]int, g.Intn(8))
	for i := range l {
		l[i] = g.Intn(80) - 8
	}
	return l
}

// act does the same to both, and tells whether they answered alike.
func act(g *rand.Rand, d *device.Device, m *model) bool {
	switch g.Intn(10) {
	case 0, 1, 2, 3:
		at, b := g.Intn(len(m.safe)+3)-1, drawn(g, 200)
		return d.Write(at, b) == m.write(at, b)
	case 4, 5:
		return d.Flush() == m.flush()
	case 6, 7:
		n := g.Intn(8) - 2
		d.Fuse(n)
		m.fuse = max(n, -1)
	default:
		l := keeps(g)
		d.Crash(l...)
		m.crash(l)
	}
	return true
}

func TestAgainstATelling(t *testing.T) {
	g := rand.New(rand.NewSource(3))
	for range 400 {
		sectors := 1 + g.Intn(4)
		d, m := device.New(sectors), modelOf(sectors)
		for range 60 {
			if g.Intn(8) == 0 { // go on with a clone, while the first one goes another way
				c, was := d.Clone(), m.clone()
				act(g, d, m)
				d, m = c, was
			}
			if !act(g, d, m) {
				t.Fatal("they answered otherwise")
			}
			agrees(t, d, m)
			if t.Failed() {
				return
			}
		}
	}
}

func TestSameAgainstATelling(t *testing.T) {
	g := rand.New(rand.NewSource(4))
	alike := 0
	for range 300 {
		var ds []*device.Device
		var ms []*model
		for range 20 {
			d, m := device.New(1), modelOf(1)
			for range g.Intn(5) {
				act(g, d, m)
			}
			ds, ms = append(ds, d), append(ms, m)
		}
		for i, a := range ds {
			for k, b := range ds {
				want := ms[i].same(ms[k])
				if device.Same(a, b) != want {
					t.Fatalf("%+v and %+v: not %v", ms[i], ms[k], want)
				}
				if want && i != k {
					alike++
				}
			}
		}
	}
	if alike < 1000 {
		t.Errorf("only %d were the same", alike)
	}
}

// P7.5

func TestWhatIsFlushedStays(t *testing.T) {
	g := rand.New(rand.NewSource(5))
	for range 500 {
		d := device.New(4)
		writes(t, d, 0, some(byte(g.Intn(200)), 256))
		flushes(t, d)
		safe := all(t, d)
		other := g.Intn(4) // the one sector that is written no more
		for range 5 {
			d.Fuse(g.Intn(12) - 1)
			for range 6 {
				if at := g.Intn(4); at != other {
					d.Write(at, some(byte(g.Intn(200)), 1+g.Intn(64)))
				}
				if g.Intn(3) == 0 {
					d.Flush()
				}
			}
			d.Crash(keeps(g)...)
			holds(t, "what was flushed", d, other, safe[other*64:][:64])
		}
	}
}

func TestEachByteBehindACrashWasOneOfIts(t *testing.T) {
	g := rand.New(rand.NewSource(6))
	torn := 0
	for range 500 {
		d := device.New(2)
		writes(t, d, 0, some(byte(g.Intn(200)), 128))
		flushes(t, d)
		may := [][]byte{all(t, d)}
		for range g.Intn(5) {
			writes(t, d, g.Intn(2), some(byte(g.Intn(200)), 1+g.Intn(64)))
			may = append(may, all(t, d))
		}
		d.Crash(keeps(g)...)
		got := all(t, d)
		for i, x := range got {
			if !slices.ContainsFunc(may, func(b []byte) bool { return b[i] == x }) {
				t.Fatalf("the byte %d is %d, which it never was", i, x)
			}
		}
		if !slices.ContainsFunc(may, func(b []byte) bool { return bytes.Equal(b, got) }) {
			torn++
		}
	}
	if torn < 50 {
		t.Errorf("only %d were torn", torn)
	}
}
