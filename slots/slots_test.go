package slots_test

import (
	"bytes"
	"encoding/binary"
	"math"
	"math/big"
	"math/rand"
	"slices"
	"strings"
	"testing"

	"keelson/api"
	"keelson/device"
	"keelson/entry"
	"keelson/frame"
	"keelson/slots"
)

const greatest = math.MaxUint64

// noop is an entry of 52 bytes.
func noop(index, term uint64) api.Entry {
	return entry.Noop(index, term, 1)
}

// write is an entry of 52 bytes, and so many more, which none of another term or another number of bytes is like.
func write(index, term uint64, more int) api.Entry {
	data := strings.Repeat(string(rune('a'+(7*index+3*term)%26)), more)
	return api.Entry{Index: index, Term: term, Start: 2, Kind: api.KindWrite, Client: 1 + term%8, Req: index, Span: api.Span{From: 3, Count: 1}, Data: data}
}

// looking is an entry of 52 bytes, and 24 for each that it looks behind at.
func looking(index, term uint64, behind int) api.Entry {
	e := noop(index, term)
	for k := range uint64(behind) {
		e.Behind = append(e.Behind, api.Look{Client: 1 + k, Req: index, Span: api.Span{From: 1, Count: 2}})
	}
	return e
}

func is(t *testing.T, what string, got, want api.Errno) {
	t.Helper()
	if got != want {
		t.Errorf("%s: %d, not %d", what, int(got), int(want))
	}
}

func opened(t *testing.T, d *device.Device, base, count, size int) *slots.Slots {
	t.Helper()
	s, e := slots.Open(d, base, count, size)
	if s == nil || e != api.OK {
		t.Fatalf("%d slots of %d sectors a place, from %d on: %d", count, size, base, int(e))
	}
	return s
}

func refuses(t *testing.T, what string, d *device.Device, base, count, size int, want api.Errno) {
	t.Helper()
	if s, e := slots.Open(d, base, count, size); s != nil || e != want {
		t.Errorf("%s: %v, %d, not %d", what, s, int(e), int(want))
	}
}

func puts(t *testing.T, s *slots.Slots, l ...api.Entry) {
	t.Helper()
	is(t, "a put", s.Put(l...), api.OK)
}

func bytesOf(t *testing.T, e api.Entry) []byte {
	t.Helper()
	b, wrong := entry.Bytes(e)
	is(t, "an entry's bytes", wrong, api.OK)
	return b
}

func frameOf(t *testing.T, number uint64, text []byte) []byte {
	t.Helper()
	b, e := frame.Make(number, text)
	is(t, "a frame", e, api.OK)
	return b
}

// entryAt is the frame of an entry.
func entryAt(t *testing.T, number uint64, e api.Entry) []byte {
	t.Helper()
	return frameOf(t, number, bytesOf(t, e))
}

// lay makes bytes safe on a device.
func lay(t *testing.T, d *device.Device, at int, b []byte) {
	t.Helper()
	is(t, "writing", d.Write(at, b), api.OK)
	is(t, "flushing", d.Flush(), api.OK)
}

// stands tells whether a device has these bytes from a sector on.
func stands(t *testing.T, what string, d *device.Device, at int, want []byte) {
	t.Helper()
	b, e := d.Read(at, len(want)/api.SectorLen)
	if e != api.OK || !bytes.Equal(b, want) {
		t.Errorf("%s: another thing from the sector %d on, %d", what, at, int(e))
	}
}

// holds tells whether just these, by rising index, are held, in each call that tells of them.
func holds(t *testing.T, what string, s *slots.Slots, low uint64, want ...api.Entry) {
	t.Helper()
	if got := s.All(); !slices.EqualFunc(got, want, entry.Same) {
		t.Errorf("%s: all are %+v, not %+v", what, got, want)
	}
	top := low
	for _, e := range want {
		top = max(top, e.Index)
		if got, ok := s.Get(e.Index); !ok || !entry.Same(got, e) {
			t.Errorf("%s: of %d there is %+v, %v, not %+v", what, e.Index, got, ok, e)
		}
		lacks(t, what, s, want, e.Index-1, e.Index+1)
	}
	lacks(t, what, s, want, 0, low, 1, 2, greatest)
	if s.Low() != low || s.Top() != top {
		t.Errorf("%s: from %d to %d, not from %d to %d", what, s.Low(), s.Top(), low, top)
	}
}

// lacks tells whether nothing is held of these indices, but for those of l.
func lacks(t *testing.T, what string, s *slots.Slots, l []api.Entry, indices ...uint64) {
	t.Helper()
	for _, index := range indices {
		if slices.ContainsFunc(l, func(e api.Entry) bool { return e.Index == index }) {
			continue
		}
		if got, ok := s.Get(index); ok || !entry.Same(got, api.Entry{}) {
			t.Errorf("%s: of %d there is %+v, %v", what, index, got, ok)
		}
	}
}

// isRefused tells whether a put has this error, and leaves all as it was.
func isRefused(t *testing.T, what string, d *device.Device, s *slots.Slots, want api.Errno, l ...api.Entry) {
	t.Helper()
	was, done, low, all := d.Clone(), d.Done(), s.Low(), s.All()
	is(t, what, s.Put(l...), want)
	if !device.Same(d, was) || d.Done() != done {
		t.Errorf("%s: something was written", what)
	}
	holds(t, what, s, low, all...)
}

// P11.1

func TestOpenOfNoDevice(t *testing.T) {
	refuses(t, "nil", nil, 0, 1, 1, api.ErrNil)
	refuses(t, "nil, and all else is wrong", nil, -1, 0, 0, api.ErrNil)
	down := device.New(10)
	down.Fuse(0)
	down.Flush()
	refuses(t, "no power", down, 0, 1, 1, api.ErrDown)
	refuses(t, "no power, and all else is wrong", down, -1, 0, 0, api.ErrDown)
	refuses(t, "no power, and no room", down, 0, 6, 1, api.ErrDown)
	refuses(t, "a device that no call made", &device.Device{}, 0, 1, 1, api.ErrRange)
}

// hasRoom reckons exactly whether so many slots are within a device.
func hasRoom(sectors, base, count, size int) bool {
	if base < 0 || count < 1 || size < 1 {
		return false
	}
	end := big.NewInt(int64(count))
	end.Mul(end, big.NewInt(int64(size)))
	end.Mul(end, big.NewInt(2))
	end.Add(end, big.NewInt(int64(base)))
	return end.Cmp(big.NewInt(int64(sectors))) <= 0
}

func TestOpenWithinBounds(t *testing.T) {
	numbers := []int{math.MinInt, math.MinInt + 1, -1 << 32, -2, -1, 0, 1, 2, 3, 4, 5, 6, 7, 11, 12, 13, 1 << 16, 1 << 31, 1 << 32, 1<<32 + 1, 1 << 61, 1<<62 - 1, 1 << 62, math.MaxInt - 1, math.MaxInt}
	for _, sectors := range []int{1, 2, 3, 8, 12, 13} {
		d := device.New(sectors)
		for _, base := range numbers {
			for _, count := range numbers {
				for _, size := range numbers {
					if !hasRoom(sectors, base, count, size) {
						refuses(t, "no room", d, base, count, size, api.ErrRange)
						continue
					}
					s := opened(t, d, base, count, size)
					holds(t, "just room", s, 0)
					if s.Count() != count || s.Room() != 48*size-8 {
						t.Errorf("%d slots, of %d bytes each, not %d, of %d sectors", s.Count(), s.Room(), count, size)
					}
				}
			}
		}
		if d.Done() != 0 {
			t.Error("Open changed the device")
		}
	}
}

func TestTheMostThatADeviceHas(t *testing.T) {
	d := device.New(api.MaxSectors)
	half := api.MaxSectors / 2
	for _, c := range []struct{ base, count, size int }{{0, half, 1}, {0, 1, half}, {0, 256, 128}, {2, half - 1, 1}, {api.MaxSectors - 2, 1, 1}} {
		holds(t, "just room", opened(t, d, c.base, c.count, c.size), 0)
		refuses(t, "one sector too few", d, c.base+1, c.count, c.size, api.ErrRange)
		refuses(t, "one slot too many", d, c.base, c.count+1, c.size, api.ErrRange)
		refuses(t, "places that are too great", d, c.base, c.count, c.size+1, api.ErrRange)
	}
}

func TestRoom(t *testing.T) {
	d := device.New(api.MaxSectors)
	for size, want := range map[int]int{1: 40, 2: 88, 3: 136, 1365: 65512, 1366: api.MaxFrame, 1367: api.MaxFrame, api.MaxSectors / 2: api.MaxFrame} {
		if got := opened(t, d, 0, 1, size).Room(); got != want {
			t.Errorf("%d sectors: room for %d bytes, not %d", size, got, want)
		}
	}
}

func TestSlotBySlot(t *testing.T) {
	// three slots of two sectors a place, from 1 on: the places of each slot lie side by side
	for index := uint64(1); index <= 20; index++ {
		for place := range 12 / 2 {
			d := device.New(14)
			lay(t, d, 1+2*place, entryAt(t, 5, noop(index, 1)))
			s := opened(t, d, 1, 3, 2)
			if place/2 == int(index%3) {
				holds(t, "where it belongs", s, 0, noop(index, 1))
			} else {
				holds(t, "where another one belongs", s, 0)
			}
		}
	}
}

func TestWhatLiesOutsideIsNotRead(t *testing.T) {
	d := device.New(16)
	for at := 0; at < 16; at += 2 {
		lay(t, d, at, entryAt(t, 5, noop(uint64(at), 1)))
	}
	holds(t, "the slots lie within", opened(t, d, 4, 1, 2), 0, noop(4, 1), noop(6, 1))
	holds(t, "the last ones", opened(t, d, 12, 1, 2), 0, noop(12, 1), noop(14, 1))
}

func TestAPlaceThatIsEmpty(t *testing.T) {
	good := looking(4, 3, 1) // 76 bytes: two sectors
	text := bytesOf(t, good)
	turned, torn := entryAt(t, 9, good), entryAt(t, 9, good)
	turned[80] ^= 1
	copy(torn[64:], entryAt(t, 8, good)[64:])
	elsewhere, none, many := good, good, bytes.Clone(text)
	elsewhere.Index, none.Index = 5, 0
	many[51] = 65 // it tells of more than may be
	empties := map[string][]byte{
		"noughts":                  make([]byte, 128),
		"a sum that does not fit":  turned,
		"torn":                     torn,
		"its second sector alone":  append(make([]byte, 64), entryAt(t, 9, good)[64:]...),
		"no text":                  frameOf(t, 9, nil),
		"a byte too few":           frameOf(t, 9, text[:len(text)-1]),
		"a byte behind it":         frameOf(t, 9, append(text[:len(text):len(text)], 0)),
		"too many looks":           frameOf(t, 9, many),
		"an index of another slot": entryAt(t, 9, elsewhere),
		"the index 0":              entryAt(t, 9, none),
		"other bytes":              bytes.Repeat([]byte{7}, 128),
	}
	for what, b := range empties {
		for place := range 2 {
			d := device.New(10)
			lay(t, d, 1+2*place, b)
			holds(t, what, opened(t, d, 1, 2, 2), 0)
			lay(t, d, 3-2*place, entryAt(t, 3, noop(6, 2)))
			s := opened(t, d, 1, 2, 2)
			holds(t, what+", the other place being good", s, 0, noop(6, 2))
			s.Trim(5)
			number := frame.Most(slices.Concat(b, entryAt(t, 3, noop(6, 2)))) + 1
			puts(t, s, noop(6, 3))
			holds(t, what+", behind a put", s, 5, noop(6, 3))
			stands(t, what+": it was free", d, 1+2*place, entryAt(t, number, noop(6, 3)))
			stands(t, what+": the other place is left", d, 3-2*place, entryAt(t, 3, noop(6, 2)))
		}
	}
}

func TestTheIndexNoughtIsNowhere(t *testing.T) {
	d := device.New(2 * 3 * 2)
	for slot := range 3 {
		lay(t, d, 4*slot, entryAt(t, 1, noop(0, 5)))
		lay(t, d, 4*slot+2, entryAt(t, 2, noop(0, 6)))
	}
	s := opened(t, d, 0, 3, 2)
	holds(t, "entries without an index", s, 0)
	puts(t, s, noop(3, 1))
	stands(t, "the first place is free", d, 0, entryAt(t, 3, noop(3, 1)))
	holds(t, "behind a put", opened(t, d, 0, 3, 2), 0, noop(3, 1))
}

func TestAFrameOverTheEndOfItsPlace(t *testing.T) {
	d := device.New(12)
	e := looking(6, 1, 3) // 124 bytes: three sectors
	lay(t, d, 0, entryAt(t, 9, e))
	holds(t, "a place of two sectors", opened(t, d, 0, 1, 2), 0)
	holds(t, "a place of three", opened(t, d, 0, 2, 3), 0, e)
}

func TestWhatLiesBehindAFrameIsOfNoMatter(t *testing.T) {
	d := device.New(8)
	lay(t, d, 0, bytes.Repeat([]byte{1}, 8*64))
	lay(t, d, 0, entryAt(t, 7, noop(6, 1)))
	holds(t, "other bytes behind", opened(t, d, 0, 1, 4), 0, noop(6, 1))
}

func TestTwoPlacesOfTheSameIndex(t *testing.T) {
	for _, first := range []struct{ term, number uint64 }{{2, 5}, {2, 6}, {3, 5}, {3, 6}, {1 << 40, 1}, {1, 1 << 40}} {
		for _, second := range []struct{ term, number uint64 }{{2, 5}, {2, 6}, {3, 5}, {3, 6}, {1 << 40, 1}, {1, 1 << 40}} {
			d := device.New(8)
			a, b := write(6, first.term, 8), write(6, second.term, 9)
			lay(t, d, 4, entryAt(t, first.number, a))
			lay(t, d, 6, entryAt(t, second.number, b))
			want := a
			if second.term > first.term || second.term == first.term && second.number > first.number {
				want = b
			}
			s := opened(t, d, 4, 1, 2)
			s.Trim(5)
			holds(t, "the greater term, or the greater number", s, 5, want)
			fresh := write(6, 1<<41, 10)
			puts(t, s, fresh)
			frames := entryAt(t, first.number, a)
			if entry.Same(want, a) {
				frames = append(frames, entryAt(t, max(first.number, second.number)+1, fresh)...)
			} else {
				frames = append(entryAt(t, max(first.number, second.number)+1, fresh), entryAt(t, second.number, b)...)
			}
			stands(t, "what was held is left", d, 4, frames)
		}
	}
}

func TestTwoPlacesWithTwoIndices(t *testing.T) {
	for _, indices := range [][2]uint64{{1, 3}, {3, 1}, {5, greatest}, {greatest, 5}} {
		for _, terms := range [][2]uint64{{1, 2}, {2, 1}, {1, 1}} {
			d := device.New(8)
			a, b := write(indices[0], terms[0], 8), write(indices[1], terms[1], 9)
			lay(t, d, 4, entryAt(t, 5, a))
			lay(t, d, 6, entryAt(t, 4, b))
			s := opened(t, d, 0, 2, 2)
			if indices[0] > indices[1] {
				a, b = b, a
			}
			holds(t, "both", s, 0, a, b)
			s.Trim(a.Index)
			holds(t, "the greater one", s, a.Index, b)
			s.Trim(b.Index)
			holds(t, "none", s, b.Index)
		}
	}
}

func TestOpenChangesNothing(t *testing.T) {
	d := device.New(8)
	lay(t, d, 0, entryAt(t, 9, noop(2, 1)))
	was, done := d.Clone(), d.Done()
	s := opened(t, d, 0, 2, 2)
	s.Trim(7)
	s.Get(2)
	s.All()
	if !device.Same(d, was) || d.Done() != done {
		t.Error("something was written")
	}
	holds(t, "opened again, nothing is trimmed", opened(t, d, 0, 2, 2), 0, noop(2, 1))
}

// P11.2

func TestGet(t *testing.T) {
	d := device.New(16)
	s := opened(t, d, 0, 4, 2)
	holds(t, "nothing", s, 0)
	puts(t, s, noop(3, 1), write(2, 1, 16))
	holds(t, "two", s, 0, write(2, 1, 16), noop(3, 1))
	lacks(t, "those beside them", s, nil, 0, 1, 4, 6, 7, 10, 11, greatest, 1<<63+2)
	s.Trim(2)
	holds(t, "one was trimmed", s, 2, noop(3, 1))
	s.Trim(3)
	holds(t, "both were trimmed", s, 3)
}

func TestWhatIsHeldIsInMemoryOfItsOwn(t *testing.T) {
	d := device.New(16)
	s := opened(t, d, 0, 2, 4)
	want := looking(2, 1, 3)
	e := looking(2, 1, 4)
	spare := e.Behind[3]
	e.Behind = e.Behind[:3]
	puts(t, s, e)
	if e.Behind[:4][3] != spare || !entry.Same(e, want) {
		t.Error("Put changed what was handed in")
	}
	change := func(what string, l []api.Look) {
		clear(l[:cap(l)])
		holds(t, what, s, 0, want)
	}
	change("what was handed in is changed", e.Behind)
	got, _ := s.Get(2)
	change("what Get told is changed", got.Behind)
	change("what All told is changed", s.All()[0].Behind)
	clear(s.All())
	holds(t, "the list that All told is changed", s, 0, want)
	s = opened(t, d, 0, 2, 4)
	got, _ = s.Get(2)
	change("what Get told is changed, of one that is opened again", got.Behind)
	change("what All told is changed, of one that is opened again", s.All()[0].Behind)
	lay(t, d, 0, make([]byte, 16*64))
	holds(t, "what stands on the device is changed", s, 0, want)
}

func TestAllByRisingIndex(t *testing.T) {
	g := rand.New(rand.NewSource(11))
	for range 50 {
		n := 1 + g.Intn(40)
		d := device.New(4 * n)
		s := opened(t, d, 0, n, 2)
		low := uint64(g.Intn(1000))
		s.Trim(low)
		var want []api.Entry
		for i := range uint64(n) {
			if g.Intn(3) > 0 {
				want = append(want, noop(low+1+i, 1))
			}
		}
		for _, k := range g.Perm(len(want)) {
			puts(t, s, want[k])
		}
		holds(t, "put in another order", s, low, want...)
		holds(t, "opened again", opened(t, d, 0, n, 2), 0, want...)
		cut := g.Intn(len(want) + 1)
		if cut > 0 {
			low = want[cut-1].Index
		}
		s.Trim(low)
		holds(t, "behind Trim", s, low, want[cut:]...)
	}
}

func TestTrim(t *testing.T) {
	d := device.New(24)
	s := opened(t, d, 0, 6, 2)
	puts(t, s, noop(1, 1), noop(2, 1), noop(4, 1), noop(6, 1))
	s.Trim(0)
	holds(t, "0", s, 0, noop(1, 1), noop(2, 1), noop(4, 1), noop(6, 1))
	s.Trim(3)
	holds(t, "more", s, 3, noop(4, 1), noop(6, 1))
	s.Trim(3)
	holds(t, "the same", s, 3, noop(4, 1), noop(6, 1))
	for low := range uint64(3) {
		s.Trim(low)
		holds(t, "less", s, 3, noop(4, 1), noop(6, 1))
	}
	s.Trim(4)
	holds(t, "one that is held", s, 4, noop(6, 1))
	s.Trim(5)
	holds(t, "one that is not held", s, 5, noop(6, 1))
	s.Trim(100)
	holds(t, "more than all that is held", s, 100)
	s.Trim(6)
	holds(t, "less, one that was held", s, 100)
	puts(t, s, noop(102, 1))
	holds(t, "behind a put", s, 100, noop(102, 1))
	s.Trim(greatest)
	holds(t, "the greatest one", s, greatest)
	s.Trim(0)
	holds(t, "0, behind the greatest one", s, greatest)
	isRefused(t, "a put", d, s, api.ErrOld, noop(greatest, 1))
}

func TestSlotsThatAreNoneOrThatNoCallMade(t *testing.T) {
	for _, s := range []*slots.Slots{nil, {}} {
		for range 2 {
			holds(t, "none", s, 0)
			if s.Count() != 0 || s.Room() != 0 {
				t.Errorf("%d slots, of %d bytes", s.Count(), s.Room())
			}
			is(t, "a put of nothing", s.Put(), api.ErrNil)
			is(t, "a put", s.Put(noop(1, 1)), api.ErrNil)
			is(t, "a put of what can't be", s.Put(noop(0, 1), api.Entry{Kind: -1}), api.ErrNil)
			s.Trim(7)
		}
	}
}

// P11.3

func TestPutOfNothing(t *testing.T) {
	d := device.New(4)
	s := opened(t, d, 0, 1, 2)
	puts(t, s, noop(1, 1))
	was, done := d.Clone(), d.Done()
	puts(t, s)
	holds(t, "nothing", s, 0, noop(1, 1))
	if !device.Same(d, was) || d.Done() != done+1 {
		t.Errorf("%d changes and flushes", d.Done()-done)
	}
	d.Fuse(0)
	is(t, "the power goes at the flush", s.Put(), api.ErrDown)
	is(t, "no power", s.Put(), api.ErrDown)
}

func TestAPutWritesItsFrameAlone(t *testing.T) {
	for _, base := range []int{0, 3} {
		d := device.New(24)
		fill := bytes.Repeat([]byte{0, 7}, 24*32)
		lay(t, d, 0, fill)
		s := opened(t, d, base, 3, 3)
		s.Trim(1)
		was, done := d.Clone(), d.Done()
		puts(t, s, looking(4, 1, 1), noop(2, 9))
		number := frame.Most(fill) + 1
		lay(t, was, base+6, entryAt(t, number, looking(4, 1, 1)))
		lay(t, was, base+12, entryAt(t, number, noop(2, 9)))
		if !device.Same(d, was) || d.Loose() != 0 {
			t.Error("something else was written, or waits")
		}
		if d.Done() != done+5 { // two changes of two sectors each, and one flush
			t.Errorf("%d changes and flushes", d.Done()-done)
		}
		d.Crash()
		holds(t, "opened again", opened(t, d, base, 3, 3), 0, noop(2, 9), looking(4, 1, 1))
	}
}

func TestTheNumberIsAboveAllEndsOfItsSlot(t *testing.T) {
	for at := range 12 {
		for _, tail := range []bool{false, true} {
			for _, number := range []uint64{1, 5, 6, 7, 1 << 40, greatest - 1} {
				d := device.New(12)
				lay(t, d, 4, entryAt(t, 6, looking(1, 1, 1)))
				b, _ := d.Read(at, 1)
				if tail {
					binary.LittleEndian.PutUint64(b[56:], number)
				} else {
					binary.BigEndian.PutUint64(b, number)
				}
				lay(t, d, at, b)
				s := opened(t, d, 0, 3, 2)
				b, _ = d.Read(4, 4)
				want, place := frame.Most(b)+1, 6
				if len(s.All()) == 0 { // that was torn
					place = 4
				}
				puts(t, s, noop(1, 2))
				stands(t, "one more than the greatest one", d, place, entryAt(t, want, noop(1, 2))[:64])
			}
		}
	}
}

func TestTheNumberIsReadWhenItIsPut(t *testing.T) {
	d := device.New(8)
	s := opened(t, d, 0, 2, 2)
	lay(t, d, 6, frameOf(t, 70, nil))
	puts(t, s, noop(1, 1))
	stands(t, "above what came to be behind Open", d, 4, entryAt(t, 71, noop(1, 1)))
	puts(t, s, noop(2, 1))
	stands(t, "of each slot for itself", d, 0, entryAt(t, 1, noop(2, 1)))
}

func TestNoNumberIsLeft(t *testing.T) {
	for _, tail := range []bool{false, true} {
		d := device.New(8)
		b := make([]byte, 64)
		if tail {
			binary.LittleEndian.PutUint64(b[56:], greatest)
		} else {
			binary.BigEndian.PutUint64(b, greatest)
		}
		lay(t, d, 3, b)
		s := opened(t, d, 0, 2, 2)
		isRefused(t, "the greatest number stands there", d, s, api.ErrFull, noop(2, 1))
		isRefused(t, "another one ahead", d, s, api.ErrFull, noop(1, 1), noop(2, 1))
		puts(t, s, noop(1, 1))
		holds(t, "the other slot", s, 0, noop(1, 1))
	}
	d := device.New(4)
	lay(t, d, 0, entryAt(t, greatest-1, noop(1, 1)))
	s := opened(t, d, 0, 1, 2)
	puts(t, s, noop(1, 2))
	stands(t, "the greatest number", d, 2, entryAt(t, greatest, noop(1, 2)))
	holds(t, "opened again", opened(t, d, 0, 1, 2), 0, noop(1, 2))
	isRefused(t, "none is left", d, s, api.ErrFull, noop(1, 3))
}

func TestWhatIsPutAgain(t *testing.T) {
	for _, step := range []uint64{0, 1, 1 << 40} { // the same term, or greater ones
		d := device.New(12)
		s := opened(t, d, 1, 2, 2)
		place := 5
		frames := make([]byte, 256)
		for n := range uint64(9) {
			e := write(3, 5+n*step, int(n))
			s.Trim(2)
			puts(t, s, e)
			b := entryAt(t, n+1, e)
			copy(frames[64*(place-5):], b)
			stands(t, "by turns", d, 5, frames)
			holds(t, "the last one", s, 2, e)
			holds(t, "opened again", opened(t, d, 1, 2, 2), 0, e)
			if n > 4 {
				s = opened(t, d, 1, 2, 2)
			}
			place = 12 - place
		}
	}
}

func TestPutOfWhatCannotBe(t *testing.T) {
	d := device.New(16)
	s := opened(t, d, 0, 4, 2)
	puts(t, s, noop(1, 1), noop(2, 1))
	isRefused(t, "the index 0", d, s, api.ErrArg, noop(0, 1))
	isRefused(t, "the index 0 alone is wrong", d, s, api.ErrArg, noop(3, 1), noop(0, 1))
	isRefused(t, "twice the same one", d, s, api.ErrArg, noop(3, 1), noop(3, 1))
	isRefused(t, "twice the same index", d, s, api.ErrArg, noop(3, 1), noop(4, 1), noop(3, 2))
	isRefused(t, "two of the same slot", d, s, api.ErrArg, noop(3, 1), noop(7, 1))
	for _, kind := range []int{-1, 256, math.MinInt, math.MaxInt} {
		e := noop(3, 1)
		e.Kind = kind
		isRefused(t, "a kind that has no byte", d, s, api.ErrArg, e)
	}
	long := noop(3, 1)
	long.Data = strings.Repeat("a", api.MaxText+1)
	isRefused(t, "a text that is too long", d, s, api.ErrLong, long)
	isRefused(t, "too many looks", d, s, api.ErrLong, looking(3, 1, api.MaxBehind+1))
	e := noop(3, 1)
	e.Kind, e.Client = 255, greatest
	puts(t, s, e)
	holds(t, "whatever has bytes can be put", s, 0, noop(1, 1), noop(2, 1), e)
}

func TestEntriesOfEachLength(t *testing.T) {
	for size := 1; size <= 4; size++ {
		d := device.New(2*size + 1)
		s := opened(t, d, 1, 1, size)
		for more := range 200 {
			e := write(1, 1, more)
			if 52+more > 48*size-8 {
				isRefused(t, "more than Room", d, s, api.ErrLong, e)
				continue
			}
			puts(t, s, e)
			holds(t, "up to Room", s, 0, e)
			holds(t, "opened again", opened(t, d, 1, 1, size), 0, e)
		}
	}
	longest := looking(1, 1, api.MaxBehind)
	longest.Data = strings.Repeat("a", api.MaxText)
	room := len(bytesOf(t, longest))
	size := frame.Sectors(room)
	d := device.New(2 * size)
	s := opened(t, d, 0, 1, size)
	puts(t, s, longest)
	holds(t, "the longest one", s, 0, longest)
	holds(t, "the longest one, opened again", opened(t, d, 0, 1, size), 0, longest)
	isRefused(t, "a sector less", d, opened(t, d, 0, 1, size-1), api.ErrLong, longest)
}

func TestIndicesBetweenLowAndCount(t *testing.T) {
	for _, low := range []uint64{0, 1, 5, 1 << 62, 1<<63 - 2, greatest - 5} {
		for count := uint64(1); count <= 4; count++ {
			for i := uint64(0); i <= low+count+3 && i <= 12; i++ {
				index := i
				if low > 5 {
					index = low - 3 + i
				}
				d := device.New(4 * int(count))
				s := opened(t, d, 0, int(count), 2)
				s.Trim(low)
				switch {
				case index == 0:
					isRefused(t, "the index 0", d, s, api.ErrArg, noop(index, 1))
				case index <= low:
					isRefused(t, "not above Low", d, s, api.ErrOld, noop(index, 1))
				case index-low > count:
					isRefused(t, "more than count above Low", d, s, api.ErrFull, noop(index, 1))
				default:
					puts(t, s, noop(index, 1))
					holds(t, "up to count above Low", s, low, noop(index, 1))
					stands(t, "the slot of that number modulo count", d, 4*int(index%count), entryAt(t, 1, noop(index, 1)))
					holds(t, "opened again", opened(t, d, 0, int(count), 2), 0, noop(index, 1))
				}
			}
		}
	}
}

func TestTheGreatestIndices(t *testing.T) {
	d := device.New(12)
	s := opened(t, d, 0, 3, 2)
	isRefused(t, "far above Low", d, s, api.ErrFull, noop(greatest, 1))
	s.Trim(greatest - 2)
	isRefused(t, "of Low", d, s, api.ErrOld, noop(greatest-2, 1))
	puts(t, s, noop(greatest, greatest), noop(greatest-1, 1))
	holds(t, "the last ones of all", s, greatest-2, noop(greatest-1, 1), noop(greatest, greatest))
	isRefused(t, "a lower term", d, s, api.ErrOld, noop(greatest, greatest-1))
	puts(t, s, write(greatest, greatest, 9))
	holds(t, "once more", s, greatest-2, noop(greatest-1, 1), write(greatest, greatest, 9))
	s.Trim(greatest - 1)
	holds(t, "but one", s, greatest-1, write(greatest, greatest, 9))
	s.Trim(greatest)
	holds(t, "nothing can be", s, greatest)
	isRefused(t, "the index 0", d, s, api.ErrArg, noop(0, greatest))
	isRefused(t, "the index 1", d, s, api.ErrOld, noop(1, greatest))
}

func TestTerms(t *testing.T) {
	d := device.New(4)
	s := opened(t, d, 0, 1, 2)
	puts(t, s, noop(1, 5))
	for range 2 {
		for _, term := range []uint64{0, 1, 4} {
			isRefused(t, "a lower term", d, s, api.ErrOld, noop(1, term))
		}
		puts(t, s, write(1, 5, 4))
		holds(t, "the same term", s, 0, write(1, 5, 4))
		puts(t, s, noop(1, 5))
		s = opened(t, d, 0, 1, 2)
	}
	puts(t, s, noop(1, 6))
	holds(t, "a higher term", s, 0, noop(1, 6))
	isRefused(t, "the term before", d, s, api.ErrOld, noop(1, 5))
	s.Trim(1)
	puts(t, s, noop(2, 0))
	holds(t, "another index may have a lower term", s, 1, noop(2, 0))
}

func TestPlacesHeldByOthers(t *testing.T) {
	// one slot: what its places have, how far it is trimmed, what is put, and where that goes (2: nowhere)
	for _, c := range []struct {
		what          string
		first, second api.Entry
		low           uint64
		put           api.Entry
		place         int
	}{
		{"both places are held by others", noop(3, 1), noop(4, 1), 0, noop(1, 9), 2},
		{"one is the last that was trimmed", noop(3, 1), noop(4, 1), 3, noop(4, 1), 0},
		{"the first one is trimmed", noop(2, 1), noop(4, 1), 2, noop(3, 1), 0},
		{"the second one is trimmed", noop(4, 1), noop(2, 1), 2, noop(3, 1), 1},
		{"both are trimmed", noop(2, 1), noop(1, 1), 2, noop(3, 1), 0},
		{"one is another's, and the other one is its own", noop(3, 1), noop(1, 1), 0, noop(1, 2), 2},
		{"one is its own, and the other one another's", noop(1, 1), noop(3, 1), 0, noop(1, 2), 2},
		{"one is its own, the other one is trimmed", noop(3, 1), noop(1, 1), 2, noop(3, 1), 1},
		{"the second one is another's, and the first one is empty", api.Entry{}, noop(3, 1), 0, noop(1, 1), 0},
		{"the first one is another's, and the second one is empty", noop(3, 1), api.Entry{}, 0, noop(1, 1), 1},
		{"the first one is an older one of its own", noop(1, 1), noop(1, 2), 0, noop(1, 2), 0},
		{"the second one is an older one of its own", noop(1, 2), noop(1, 1), 0, noop(1, 2), 1},
		{"the first one is an older one of another index", noop(3, 1), noop(3, 2), 0, noop(1, 1), 0},
		{"the second one is an older one of another index", noop(3, 2), noop(3, 1), 0, noop(1, 1), 1},
	} {
		d := device.New(4)
		for place, e := range []api.Entry{c.first, c.second} {
			if e.Index != 0 {
				lay(t, d, 2*place, entryAt(t, 7-uint64(place), e))
			}
		}
		s := opened(t, d, 0, 1, 2)
		s.Trim(c.low)
		if c.place == 2 {
			isRefused(t, c.what, d, s, api.ErrFull, c.put)
			continue
		}
		b, _ := d.Read(0, 4)
		number := frame.Most(b) + 1
		puts(t, s, c.put)
		copy(b[128*c.place:], entryAt(t, number, c.put))
		stands(t, c.what, d, 0, b)
	}
}

func TestTheFirstErrorOfTheFirstOne(t *testing.T) {
	d := device.New(16)
	s := opened(t, d, 0, 4, 2)
	s.Trim(4)
	puts(t, s, noop(6, 5))
	noKind := func(e api.Entry) api.Entry { e.Kind = -1; return e }
	errors := map[string]struct {
		l    []api.Entry
		want api.Errno
	}{
		"no index, and no bytes":                 {[]api.Entry{noKind(noop(0, 1))}, api.ErrArg},
		"no index, and too long":                 {[]api.Entry{write(0, 1, 90)}, api.ErrArg},
		"a slot twice, and too long":             {[]api.Entry{noop(7, 1), write(7, 1, 90)}, api.ErrArg},
		"a slot twice, and old":                  {[]api.Entry{noop(7, 1), noop(3, 1)}, api.ErrArg},
		"a slot twice, and above":                {[]api.Entry{noop(7, 1), noop(11, 1)}, api.ErrArg},
		"no bytes, and old":                      {[]api.Entry{noKind(noop(4, 1))}, api.ErrArg},
		"no bytes, and above":                    {[]api.Entry{noKind(noop(9, 1))}, api.ErrArg},
		"too long, and old":                      {[]api.Entry{write(4, 1, 90)}, api.ErrLong},
		"too long, and of a lower term":          {[]api.Entry{write(6, 1, 90)}, api.ErrLong},
		"too long, and above":                    {[]api.Entry{write(9, 1, 90)}, api.ErrLong},
		"the last one alone has an error: old":   {[]api.Entry{noop(5, 1), noop(7, 1), noop(4, 1)}, api.ErrOld},
		"the last one alone has an error: term":  {[]api.Entry{noop(5, 1), noop(7, 1), noop(6, 4)}, api.ErrOld},
		"the last one alone has an error: above": {[]api.Entry{noop(6, 5), noop(7, 1), noop(9, 1)}, api.ErrFull},
		"the last one alone has an error: long":  {[]api.Entry{noop(6, 5), noop(7, 1), write(8, 1, 90)}, api.ErrLong},
		"above, then old":                        {[]api.Entry{noop(9, 1), noop(4, 1)}, api.ErrFull},
		"old, then above":                        {[]api.Entry{noop(4, 1), noop(9, 1)}, api.ErrOld},
		"old, then too long":                     {[]api.Entry{noop(3, 1), write(5, 1, 90)}, api.ErrOld},
		"too long, then no index":                {[]api.Entry{write(5, 1, 90), noop(0, 1)}, api.ErrLong},
		"of a lower term, then no kind":          {[]api.Entry{noop(6, 4), noKind(noop(5, 1))}, api.ErrOld},
		"two have each another one":              {[]api.Entry{noop(5, 1), noop(10, 1), write(7, 1, 90)}, api.ErrFull},
	}
	for what, c := range errors {
		isRefused(t, what, d, s, c.want, c.l...)
	}
	down := device.New(16)
	lost := opened(t, down, 0, 4, 2)
	lost.Trim(4)
	puts(t, lost, noop(6, 5))
	down.Fuse(0)
	down.Flush()
	for what, c := range errors {
		isRefused(t, what+", and no power", down, lost, c.want, c.l...)
	}
	isRefused(t, "no power", down, lost, api.ErrDown, noop(5, 1))
}

func TestOldGoesAheadOfFull(t *testing.T) {
	d := device.New(8)
	lay(t, d, 0, entryAt(t, 2, noop(3, 5)))
	lay(t, d, 2, entryAt(t, 1, noop(4, 5)))
	s := opened(t, d, 0, 1, 2)
	isRefused(t, "a greater term is held, and it is far above Low", d, s, api.ErrOld, noop(4, 4))
	isRefused(t, "far above Low", d, s, api.ErrFull, noop(4, 5))
	lay(t, d, 0, entryAt(t, 3, noop(1, 5)))
	s = opened(t, d, 0, 1, 2)
	isRefused(t, "a greater term is held, and no place is free", d, s, api.ErrOld, noop(1, 4))
	isRefused(t, "no place is free", d, s, api.ErrFull, noop(1, 5))
}

func TestTheExample(t *testing.T) {
	d := device.New(8)
	s := opened(t, d, 0, 2, 2)
	puts(t, s, noop(1, 1))
	puts(t, s, noop(2, 1))
	isRefused(t, "3", d, s, api.ErrFull, noop(3, 1))
	s.Trim(1)
	puts(t, s, noop(3, 1))
	holds(t, "2 and 3", s, 1, noop(2, 1), noop(3, 1))
}

func TestManySlots(t *testing.T) {
	count := api.MaxSectors / 4
	d := device.New(api.MaxSectors)
	s := opened(t, d, 0, count, 2)
	l := make([]api.Entry, count)
	for i := range l {
		l[i] = noop(uint64(i)+1, 1)
	}
	puts(t, s, l...)
	puts(t, s, l...)
	holds(t, "as many as there may be", s, 0, l...)
	isRefused(t, "one more", d, s, api.ErrArg, append(l[:count:count], noop(uint64(count)+1, 1))...)
	isRefused(t, "one more alone", d, s, api.ErrFull, noop(uint64(count)+1, 1))
	holds(t, "opened again", opened(t, d, 0, count, 2), 0, l...)
}

// P11.4

// model is a telling of its own of what slots hold: what each place has, as far as it was put without an error, and nothing else.
type model struct {
	count, size int
	low         uint64
	has         map[int][2]api.Entry // by slot; an entry without an index is none
	numbers     map[int][2]uint64
}

// reads is a model of what stands on a device from the sector 1 on.
func reads(d *device.Device, count, size int) *model {
	m := &model{count: count, size: size, has: map[int][2]api.Entry{}, numbers: map[int][2]uint64{}}
	for slot := range count {
		for place := range 2 {
			b, _ := d.Read(m.at(slot, place), size)
			number, text, e := frame.Read(b)
			if e != api.OK {
				continue
			}
			m.set(slot, place, parsed(text), number)
		}
	}
	return m
}

// parsed reads the entries that these tests put, field by field: no text of theirs is an entry with something behind it.
func parsed(b []byte) api.Entry {
	num := func(width int) (n uint64) {
		for i := range width {
			n |= uint64(b[i]) << (8 * i)
		}
		b = b[width:]
		return n
	}
	look := func() api.Look {
		return api.Look{Client: num(8), Req: num(8), Span: api.Span{From: uint32(num(4)), Count: uint32(num(4))}}
	}
	e := api.Entry{Index: num(8), Term: num(8), Start: num(8), Kind: int(num(1))}
	l := look()
	e.Client, e.Req, e.Span = l.Client, l.Req, l.Span
	n := num(2)
	e.Data = string(b[:n])
	b = b[n:]
	for range num(1) {
		e.Behind = append(e.Behind, look())
	}
	return e
}

func (m *model) at(slot, place int) int {
	return 1 + 2*m.size*slot + m.size*place
}

func (m *model) set(slot, place int, e api.Entry, number uint64) {
	has, numbers := m.has[slot], m.numbers[slot]
	has[place], numbers[place] = e, number
	m.has[slot], m.numbers[slot] = has, numbers
}

// best tells the place in which what is held of an index stands; 2, if nothing is.
func (m *model) best(index uint64) int {
	if index <= m.low {
		return 2
	}
	slot := int(index % uint64(m.count))
	has, numbers := m.has[slot], m.numbers[slot]
	best := 2
	for place, e := range has {
		switch {
		case e.Index != index:
		case best == 2, e.Term > has[best].Term, e.Term == has[best].Term && numbers[place] > numbers[best]:
			best = place
		}
	}
	return best
}

func (m *model) get(index uint64) (api.Entry, bool) {
	best := m.best(index)
	if best == 2 {
		return api.Entry{}, false
	}
	return m.has[int(index%uint64(m.count))][best], true
}

func (m *model) all(most uint64) []api.Entry {
	var l []api.Entry
	for index := range most + 1 {
		if e, ok := m.get(index); ok {
			l = append(l, e)
		}
	}
	return l
}

// free tells the first place of an index's slot that holds nothing; 2, if there is none.
func (m *model) free(index uint64) int {
	for place, e := range m.has[int(index%uint64(m.count))] {
		if e.Index == 0 || m.best(e.Index) != place {
			return place
		}
	}
	return 2
}

func (m *model) refuses(l []api.Entry) api.Errno {
	for i, e := range l {
		for _, ahead := range l[:i] {
			if ahead.Index%uint64(m.count) == e.Index%uint64(m.count) {
				return api.ErrArg
			}
		}
		held, ok := m.get(e.Index)
		switch {
		case e.Index == 0:
			return api.ErrArg
		case 52+len(e.Data)+24*len(e.Behind) > 48*m.size-8:
			return api.ErrLong
		case e.Index <= m.low, ok && held.Term > e.Term:
			return api.ErrOld
		case e.Index > m.low+uint64(m.count), m.free(e.Index) == 2:
			return api.ErrFull
		}
	}
	return api.OK
}

// put does on a device what a Put should, and tells its error.
func (m *model) put(d *device.Device, l []api.Entry) api.Errno {
	if e := m.refuses(l); e != api.OK {
		return e
	}
	numbers := make([]uint64, len(l))
	for i, e := range l {
		slot := int(e.Index % uint64(m.count))
		b, _ := d.Read(m.at(slot, 0), 2*m.size)
		for len(b) > 0 {
			numbers[i] = max(numbers[i], binary.BigEndian.Uint64(b), binary.LittleEndian.Uint64(b[56:]))
			b = b[64:]
		}
		numbers[i]++
		text, _ := entry.Bytes(e)
		f, _ := frame.Make(numbers[i], text)
		if wrong := d.Write(m.at(slot, m.free(e.Index)), f); wrong != api.OK {
			return wrong
		}
	}
	if wrong := d.Flush(); wrong != api.OK {
		return wrong
	}
	for i, e := range l {
		m.set(int(e.Index%uint64(m.count)), m.free(e.Index), e, numbers[i])
	}
	return api.OK
}

// drawn is some entries around what can be put.
func drawn(g *rand.Rand, m *model) []api.Entry {
	l := make([]api.Entry, g.Intn(4))
	for i := range l {
		index := m.low + uint64(g.Intn(m.count+2))
		if g.Intn(20) == 0 {
			index = uint64(g.Intn(3 * m.count))
		}
		switch g.Intn(3) {
		case 0:
			l[i] = noop(index, uint64(g.Intn(6)))
		case 1:
			l[i] = write(index, uint64(g.Intn(6)), g.Intn(48*m.size-56))
		default:
			l[i] = looking(index, uint64(g.Intn(6)), g.Intn(2*m.size-1))
		}
	}
	return l
}

// keeps is what is kept of so many changes.
func keeps(g *rand.Rand, n int) []int {
	l := make([]int, n)
	for i := range l {
		l[i] = g.Intn(65)
		if g.Intn(2) == 0 {
			l[i] = 64 * g.Intn(2)
		}
	}
	return l
}

func TestAgainstATellingOfItsOwn(t *testing.T) {
	g := rand.New(rand.NewSource(111))
	seen := map[api.Errno]int{}
	for range 600 {
		count, size := 1+g.Intn(4), 2+g.Intn(2)
		d := device.New(2*count*size + 2)
		want := d.Clone()
		s, m := opened(t, d, 1, count, size), reads(want, count, size)
		for range 40 {
			switch g.Intn(12) {
			case 0:
				low := uint64(max(0, int(m.low)-1+g.Intn(4)))
				s.Trim(low)
				m.low = max(m.low, low)
			case 1:
				s, m = opened(t, d, 1, count, size), reads(want, count, size)
			default:
				fuse, l := g.Intn(20)-10, drawn(g, m)
				d.Fuse(fuse)
				want.Fuse(fuse)
				got, should := s.Put(l...), m.put(want, l)
				seen[should]++
				if got != should || !device.Same(d, want) || d.Done() != want.Done() {
					t.Fatalf("%d, not %d, of %+v in %+v", int(got), int(should), l, m)
				}
				keep := keeps(g, d.Loose())
				if d.Down() || g.Intn(3) == 0 {
					d.Crash(keep...)
					want.Crash(keep...)
				}
			}
			holds(t, "a telling of its own", s, m.low, m.all(100)...)
			if t.Failed() {
				t.Fatalf("of %+v", m)
			}
		}
	}
	for _, e := range []api.Errno{api.OK, api.ErrArg, api.ErrLong, api.ErrOld, api.ErrFull, api.ErrDown} {
		if seen[e] < 100 {
			t.Errorf("%d only %d times", int(e), seen[e])
		}
	}
}

// oneOf tells which of two lists has what is held of an index: 0, 1, or 2 of neither; none of both is 0.
func oneOf(s *slots.Slots, index uint64, lists ...[]api.Entry) int {
	got, ok := s.Get(index)
	for i, l := range lists {
		k := slices.IndexFunc(l, func(e api.Entry) bool { return e.Index == index })
		if k < 0 && !ok || k >= 0 && ok && entry.Same(got, l[k]) {
			return i
		}
	}
	return len(lists)
}

// someKeeps is lists of what may be kept of so many changes: nothing, some and all.
func someKeeps(g *rand.Rand, n int) [][]int {
	all := slices.Repeat([]int{64}, n)
	l := [][]int{nil, make([]int, n), all}
	for i := range n {
		for _, k := range []int{0, 1, 7, 8, 9, 30, 55, 56, 57, 63} {
			one := slices.Clone(all)
			one[i] = k
			l = append(l, one, append(make([]int, i), k))
		}
	}
	for range 40 {
		l = append(l, keeps(g, n))
	}
	return l
}

// eachEnd puts on clones of a device, and lets the power go at each change, and at the flush, with each keep.
func eachEnd(t *testing.T, d *device.Device, low uint64, l []api.Entry, then func(c *device.Device, first, again *slots.Slots)) {
	t.Helper()
	g := rand.New(rand.NewSource(4))
	changes := 0
	for _, e := range l {
		changes += frame.Sectors(len(bytesOf(t, e)))
	}
	for n := range changes + 1 {
		for _, keep := range someKeeps(g, min(n+1, changes)) {
			c := d.Clone()
			first := opened(t, c, 1, 3, 2)
			first.Trim(low)
			c.Fuse(n)
			is(t, "the power goes in a put", first.Put(l...), api.ErrDown)
			c.Crash(keep...)
			again := opened(t, c, 1, 3, 2)
			again.Trim(low)
			then(c, first, again)
		}
	}
}

func TestWhatWasHeldOrWhatWasToBePut(t *testing.T) {
	fresh := []api.Entry{looking(4, 6, 1), noop(5, 3), write(3, 5, 30)}
	for before := range 4 { // what is put ahead of it
		d := device.New(14)
		s := opened(t, d, 1, 3, 2)
		if before > 0 {
			puts(t, s, noop(1, 9), noop(2, 9), noop(3, 2))
			puts(t, s, looking(3, 3, 1), looking(2, 9, 1))
		}
		s.Trim(2)
		if before > 1 {
			puts(t, s, write(4, 5, 33), noop(3, 5))
		}
		if before > 2 {
			puts(t, s, noop(5, 2), noop(4, 6))
		}
		old := s.All()
		var seen [2]int
		eachEnd(t, d, 2, fresh, func(c *device.Device, first, again *slots.Slots) {
			holds(t, "it goes on with what it held", first, 2, old...)
			for index := uint64(3); index <= 5; index++ {
				which := oneOf(again, index, old, fresh)
				if which > 1 {
					t.Fatalf("%d: neither what was held nor what was to be put of %d: %+v", before, index, again.All())
				}
				seen[which]++
			}
			puts(t, first, fresh...)
			held := opened(t, c, 1, 3, 2)
			held.Trim(2)
			holds(t, "put without an error", held, 2, fresh[2], fresh[0], fresh[1])
			if t.Failed() {
				t.FailNow()
			}
		})
		if seen[0] == 0 || seen[1] == 0 {
			t.Errorf("%d: %v", before, seen)
		}
	}
}

func TestOnceMoreBehindIt(t *testing.T) {
	d := device.New(14)
	s := opened(t, d, 1, 3, 2)
	puts(t, s, noop(1, 1), looking(2, 1, 1))
	puts(t, s, looking(1, 2, 1), looking(2, 2, 1))
	fresh, third := []api.Entry{noop(2, 4), looking(1, 3, 1)}, []api.Entry{looking(2, 5, 1), write(1, 3, 30)}
	round := 0
	eachEnd(t, d, 0, fresh, func(c *device.Device, _, again *slots.Slots) {
		if round++; round%4 != 0 { // a part of all ends is enough to go on with
			return
		}
		old := again.All()
		eachEnd(t, c, 0, third, func(c *device.Device, _, again *slots.Slots) {
			for index := uint64(1); index <= 2; index++ {
				if oneOf(again, index, old, third) > 1 {
					t.Fatal("neither what was held nor what was to be put, the second time")
				}
			}
		})
	})
}

func TestAsOftenAsMayBe(t *testing.T) {
	g := rand.New(rand.NewSource(114))
	failed, good := 0, 0
	for range 300 {
		count, size := 1+g.Intn(3), 2+g.Intn(2)
		d := device.New(2*count*size + 2)
		s := opened(t, d, 1, count, size)
		low := uint64(0)
		may := map[uint64][]api.Entry{} // what each index may be: the first one is what is held (without an index: nothing is), the others were to be put
		for range 60 {
			if g.Intn(8) == 0 {
				low += uint64(g.Intn(3))
				s.Trim(low)
			}
			var l []api.Entry
			for _, k := range g.Perm(count)[:g.Intn(count+1)] {
				index := low + 1 + uint64(k)
				held, _ := s.Get(index)
				l = append(l, write(index, held.Term+uint64(g.Intn(2)), g.Intn(48*size-60)))
			}
			d.Fuse(g.Intn(16) - 4)
			switch e := s.Put(l...); e {
			case api.OK:
				good++
				for _, x := range l {
					may[x.Index] = []api.Entry{x}
				}
			case api.ErrDown:
				failed++
				for _, x := range l {
					if len(may[x.Index]) == 0 {
						may[x.Index] = []api.Entry{{}}
					}
					may[x.Index] = append(may[x.Index], x)
				}
			default:
				t.Fatal(int(e))
			}
			d.Crash(keeps(g, d.Loose())...)
			again := opened(t, d, 1, count, size)
			again.Trim(low)
			for index := low + 1; index <= low+uint64(count); index++ {
				got, _ := again.Get(index)
				if l := may[index]; len(l) == 0 && got.Index != 0 || len(l) > 0 && !slices.ContainsFunc(l, func(e api.Entry) bool { return entry.Same(e, got) }) {
					t.Fatalf("of %d there is %+v, not one of %+v", index, got, l)
				}
			}
			if g.Intn(2) == 0 {
				s = again
				for index := low + 1; index <= low+uint64(count); index++ {
					got, _ := s.Get(index)
					may[index] = []api.Entry{got}
				}
			}
		}
	}
	if failed < 1000 || good < 1000 {
		t.Errorf("%d puts failed, and %d did not", failed, good)
	}
}
