package twin_test

import (
	"bytes"
	"encoding/binary"
	"math"
	"math/rand"
	"slices"
	"testing"

	"keelson/api"
	"keelson/device"
	"keelson/frame"
	"keelson/twin"
)

const greatest = math.MaxUint64

// some is bytes that are no noughts, other ones for each first one.
func some(first, n int) []byte {
	b := make([]byte, n)
	for i := range b {
		b[i] = byte(1 + (first*17+i)%250)
	}
	return b
}

func is(t *testing.T, what string, got, want api.Errno) {
	t.Helper()
	if got != want {
		t.Errorf("%s: %d, not %d", what, int(got), int(want))
	}
}

func opened(t *testing.T, d *device.Device, base, size int) *twin.Twin {
	t.Helper()
	w, e := twin.Open(d, base, size)
	if w == nil || e != api.OK {
		t.Fatalf("of %d sectors from %d on: %d", size, base, int(e))
	}
	return w
}

func refuses(t *testing.T, what string, d *device.Device, base, size int, want api.Errno) {
	t.Helper()
	if w, e := twin.Open(d, base, size); w != nil || e != want {
		t.Errorf("%s: %v, %d, not %d", what, w, int(e), int(want))
	}
}

func saves(t *testing.T, w *twin.Twin, text []byte) {
	t.Helper()
	is(t, "a save", w.Save(text), api.OK)
}

// tells is what a twin says of what was saved last.
func tells(t *testing.T, what string, w *twin.Twin, text []byte, number, next uint64) {
	t.Helper()
	b, ok := w.Last()
	if !ok || !bytes.Equal(b, text) || w.Number() != number || w.Next() != next {
		t.Errorf("%s: %v, %v, the number %d, then %d, not %v, %d, %d", what, b, ok, w.Number(), w.Next(), text, number, next)
	}
}

func isEmpty(t *testing.T, what string, w *twin.Twin, next uint64) {
	t.Helper()
	b, ok := w.Last()
	if ok || len(b) != 0 || w.Number() != 0 || w.Next() != next {
		t.Errorf("%s: %v, %v, the number %d, then %d, not %d", what, b, ok, w.Number(), w.Next(), next)
	}
}

func frameOf(t *testing.T, number uint64, text []byte) []byte {
	t.Helper()
	b, e := frame.Make(number, text)
	if e != api.OK {
		t.Fatalf("the frame %d of %d bytes: %d", number, len(text), int(e))
	}
	return b
}

// put makes bytes safe on a device.
func put(t *testing.T, d *device.Device, at int, b []byte) {
	t.Helper()
	is(t, "writing", d.Write(at, b), api.OK)
	is(t, "flushing", d.Flush(), api.OK)
}

// holds tells whether a device begins with these bytes from a sector on.
func holds(t *testing.T, what string, d *device.Device, at int, want []byte) {
	t.Helper()
	b, e := d.Read(at, len(want)/api.SectorLen)
	if e != api.OK || !bytes.Equal(b, want) {
		t.Errorf("%s: another thing from the sector %d on, %d", what, at, int(e))
	}
}

// P8.1

func TestOpenOfWhatCannotBe(t *testing.T) {
	refuses(t, "nil", nil, 0, 1, api.ErrNil)
	refuses(t, "nil, and all else is wrong", nil, -1, 0, api.ErrNil)
	down := device.New(10)
	down.Fuse(0)
	down.Flush()
	refuses(t, "no power", down, 0, 1, api.ErrDown)
	refuses(t, "no power, and all else is wrong", down, -1, 0, api.ErrDown)
	refuses(t, "a device that no call made", &device.Device{}, 0, 1, api.ErrRange)
}

func TestOpenAtItsBounds(t *testing.T) {
	numbers := []int{math.MinInt, math.MinInt + 1, -2, -1, 0, 1, 2, 3, 4, 5, 6, 7, 8, 9, 10, 11, 1 << 62, math.MaxInt - 1, math.MaxInt}
	for _, sectors := range []int{1, 2, 3, 9, 10} {
		d := device.New(sectors)
		for _, base := range numbers {
			for _, size := range numbers {
				if size < 1 || base < 0 || base > sectors || size > sectors || base+2*size > sectors {
					refuses(t, "no room", d, base, size, api.ErrRange)
				} else {
					isEmpty(t, "just room", opened(t, d, base, size), 1)
				}
			}
		}
		if d.Done() != 0 {
			t.Error("Open changed the device")
		}
	}
	d := device.New(api.MaxSectors)
	isEmpty(t, "the greatest one", opened(t, d, 0, api.MaxSectors/2), 1)
	refuses(t, "one too few", d, 1, api.MaxSectors/2, api.ErrRange)
}

func TestATwinThatIsNoneOrThatNoCallMade(t *testing.T) {
	for _, w := range []*twin.Twin{nil, {}} {
		isEmpty(t, "none", w, 0)
		if w.Room() != 0 {
			t.Errorf("it has room for %d bytes", w.Room())
		}
		for _, n := range []int{0, 1, api.MaxFrame + 1} {
			is(t, "a save", w.Save(make([]byte, n)), api.ErrNil)
		}
		isEmpty(t, "none, behind saves", w, 0)
	}
}

func TestTheGreaterNumberIsTheLast(t *testing.T) {
	numbers := []uint64{0, 1, 2, 255, 256, 1 << 32, 1 << 63, greatest - 1, greatest} // 0: no frame
	for _, first := range numbers {
		for _, second := range numbers {
			d := device.New(7)
			if first != 0 {
				put(t, d, 1, frameOf(t, first, some(1, 60)))
			}
			if second != 0 {
				put(t, d, 4, frameOf(t, second, some(2, 20)))
			}
			w := opened(t, d, 1, 3)
			switch next := max(first, second) + 1; {
			case first == 0 && second == 0:
				isEmpty(t, "no place is good", w, 1)
			case first >= second: // of the same number the first place
				tells(t, "the first place", w, some(1, 60), first, next)
			default:
				tells(t, "the second place", w, some(2, 20), second, next)
			}
		}
	}
}

func TestWhatLiesBehindAFrameIsOfNoMatter(t *testing.T) {
	d := device.New(6)
	put(t, d, 0, bytes.Repeat([]byte{1}, 6*64))
	put(t, d, 0, frameOf(t, 7, some(1, 10)))
	put(t, d, 3, frameOf(t, 5, some(2, 10)))
	tells(t, "other bytes behind", opened(t, d, 0, 3), some(1, 10), 7, 0x0101010101010102)
}

func TestAPlaceThatIsNotGood(t *testing.T) {
	long := frameOf(t, 9, some(1, 100)) // of three sectors
	turned := frameOf(t, 9, some(1, 100))
	turned[80] ^= 1
	torn := slices.Concat(frameOf(t, 9, some(1, 100))[:128], frameOf(t, 8, some(1, 100))[128:])
	for what, b := range map[string][]byte{"a sum that does not fit": turned, "torn": torn, "its first sector": long[64:], "noughts ahead": append(make([]byte, 64), long[:128]...)} {
		for place := range 2 {
			d := device.New(8)
			put(t, d, 1+3*place, b)
			isEmpty(t, what, opened(t, d, 1, 3), 10)
			put(t, d, 1+3*(1-place), frameOf(t, 3, some(5, 30)))
			tells(t, what+", the other place being good", opened(t, d, 1, 3), some(5, 30), 3, 10)
		}
	}
	d := device.New(8)
	put(t, d, 0, long)
	isEmpty(t, "a frame over the end of its place", opened(t, d, 0, 2), 10)
	put(t, d, 4, long)
	tells(t, "the same with room", opened(t, d, 1, 3), some(1, 100), 9, 10)
}

func TestNextIsAboveAllEnds(t *testing.T) {
	for at := range 8 {
		for _, tail := range []bool{false, true} {
			for _, number := range []uint64{1, 6, 7, 1 << 40, greatest - 1, greatest} {
				d := device.New(8)
				put(t, d, 1, frameOf(t, 6, some(1, 100)))
				put(t, d, 4, frameOf(t, 5, some(2, 100)))
				b, _ := d.Read(at, 1)
				if tail {
					binary.LittleEndian.PutUint64(b[56:], number)
				} else {
					binary.BigEndian.PutUint64(b, number)
				}
				put(t, d, at, b)
				want := max(number, 6) + 1 // of both places some other end is left
				if at == 0 || at == 7 {
					want = 7 // they lie outside
				}
				if w := opened(t, d, 1, 3); w.Next() != want {
					t.Errorf("%d at the sector %d: next is %d, not %d", number, at, w.Next(), want)
				}
			}
		}
	}
}

func TestRoom(t *testing.T) {
	d := device.New(api.MaxSectors)
	for size, want := range map[int]int{1: 40, 2: 88, 3: 136, 1365: 65512, 1366: api.MaxFrame, 1367: api.MaxFrame, api.MaxSectors / 2: api.MaxFrame} {
		if got := opened(t, d, 0, size).Room(); got != want {
			t.Errorf("%d sectors: room for %d bytes, not %d", size, got, want)
		}
	}
}

func TestNumberAndNextGoOn(t *testing.T) {
	d := device.New(4)
	w := opened(t, d, 0, 2)
	isEmpty(t, "a new one", w, 1)
	for n := 1; n < 20; n++ {
		saves(t, w, some(n, n))
		tells(t, "a save", w, some(n, n), uint64(n), uint64(n)+1)
		tells(t, "opened again", opened(t, d, 0, 2), some(n, n), uint64(n), uint64(n)+1)
	}
}

func TestTheGreatestNumberOfAll(t *testing.T) {
	d := device.New(4)
	put(t, d, 2, frameOf(t, greatest-2, some(1, 10)))
	w := opened(t, d, 0, 2)
	tells(t, "two numbers are left", w, some(1, 10), greatest-2, greatest-1)
	saves(t, w, some(2, 10))
	saves(t, w, some(3, 10))
	tells(t, "the greatest one", w, some(3, 10), greatest, 0)
	was := d.Clone()
	is(t, "none is left", w.Save(some(4, 10)), api.ErrFull)
	is(t, "none is left, and the text is too long", w.Save(some(4, 89)), api.ErrLong)
	tells(t, "no number is taken", w, some(3, 10), greatest, 0)
	w = opened(t, d, 0, 2)
	tells(t, "opened again", w, some(3, 10), greatest, 0)
	is(t, "none is left of the one that is opened again", w.Save(nil), api.ErrFull)
	if !device.Same(d, was) || d.Done() != was.Done() {
		t.Error("a save without a number wrote something")
	}
	d = device.New(4)
	put(t, d, 3, bytes.Repeat([]byte{255}, 64))
	w = opened(t, d, 0, 2)
	isEmpty(t, "no place is good, and no number is left", w, 0)
	is(t, "a save", w.Save(nil), api.ErrFull)
}

func TestTheLastIsInMemoryOfItsOwn(t *testing.T) {
	d := device.New(4)
	w := opened(t, d, 0, 2)
	room := some(1, 100)
	before := bytes.Clone(room)
	saves(t, w, room[:50])
	if !bytes.Equal(room, before) {
		t.Error("Save changed what was handed in")
	}
	clear(room)
	tells(t, "what was handed in is changed", w, before[:50], 1, 2)
	b, _ := w.Last()
	clear(b[:cap(b)])
	tells(t, "what was handed out is changed", w, before[:50], 1, 2)
	w = opened(t, d, 0, 2)
	b, _ = w.Last()
	clear(b[:cap(b)])
	tells(t, "what was handed out is changed, of one that is opened again", w, before[:50], 1, 2)
	put(t, d, 0, make([]byte, 256))
	tells(t, "what stands on the device is changed", w, before[:50], 1, 2)
}

// P8.2

func TestSavesGoByTurns(t *testing.T) {
	for _, base := range []int{0, 3} {
		d := device.New(10)
		fill := bytes.Repeat([]byte{9}, 64)
		put(t, d, 0, bytes.Repeat(fill, base))
		put(t, d, base+6, bytes.Repeat(fill, 4-base))
		w := opened(t, d, base, 3)
		for n := 1; n <= 7; n++ {
			place := base + 3*((n-1)%2) // the first save goes to the first place
			other, e := d.Read(base+base+3-place, 3)
			is(t, "the other place", e, api.OK)
			saves(t, w, some(n, 100))
			holds(t, "the place that is written", d, place, frameOf(t, uint64(n), some(n, 100)))
			holds(t, "the other place", d, base+base+3-place, other)
			holds(t, "what lies ahead", d, 0, bytes.Repeat(fill, base))
			holds(t, "what lies behind", d, base+6, bytes.Repeat(fill, 4-base))
		}
		tells(t, "the last one", w, some(7, 100), 7, 8)
	}
}

func TestTheFirstSaveGoesBesideTheLastOne(t *testing.T) {
	for place := range 2 {
		d := device.New(4)
		put(t, d, 2*place, frameOf(t, 5, some(1, 50)))
		w := opened(t, d, 0, 2)
		saves(t, w, some(2, 50))
		holds(t, "the last one is left", d, 2*place, frameOf(t, 5, some(1, 50)))
		holds(t, "the other place", d, 2-2*place, frameOf(t, 6, some(2, 50)))
	}
	d := device.New(4)
	put(t, d, 0, frameOf(t, 5, some(1, 50)))
	put(t, d, 2, frameOf(t, 5, some(2, 50)))
	w := opened(t, d, 0, 2)
	tells(t, "the first place of the same number", w, some(1, 50), 5, 6)
	saves(t, w, some(3, 50))
	holds(t, "the first place is left", d, 0, frameOf(t, 5, some(1, 50)))
	holds(t, "the second place", d, 2, frameOf(t, 6, some(3, 50)))
	d = device.New(4)
	put(t, d, 2, frameOf(t, 9, some(1, 50))[:64])
	saves(t, opened(t, d, 0, 2), some(2, 10))
	holds(t, "no place is good: the first one", d, 0, frameOf(t, 10, some(2, 10)))
}

func TestSaveWritesItsFrameAlone(t *testing.T) {
	d := device.New(8)
	fill := bytes.Repeat([]byte{0, 7}, 128)
	put(t, d, 0, slices.Concat(fill, fill))
	w := opened(t, d, 0, 4)
	next, done := w.Next(), d.Done()
	saves(t, w, some(1, 60))
	holds(t, "the frame", d, 0, frameOf(t, next, some(1, 60)))
	holds(t, "behind the frame", d, 2, fill[:128])
	holds(t, "the other place", d, 4, fill)
	if d.Loose() != 0 || d.Done() != done+3 {
		t.Errorf("%d changes wait, and there were %d changes and flushes", d.Loose(), d.Done()-done)
	}
	d.Crash()
	tells(t, "opened again", opened(t, d, 0, 4), some(1, 60), next, next+1)
}

func TestTextsOfEachLength(t *testing.T) {
	for size := 1; size <= 3; size++ {
		d := device.New(2 * size)
		w := opened(t, d, 0, size)
		room := w.Room()
		for n := range room + 1 {
			saves(t, w, some(n, n))
			tells(t, "saved", w, some(n, n), uint64(n)+1, uint64(n)+2)
			tells(t, "opened again", opened(t, d, 0, size), some(n, n), uint64(n)+1, uint64(n)+2)
		}
		was := d.Clone()
		for _, n := range []int{room + 1, room + 2, room + 1000, api.MaxFrame + 1} {
			is(t, "one more", w.Save(some(n, n)), api.ErrLong)
		}
		tells(t, "behind texts that are too long", w, some(room, room), uint64(room)+1, uint64(room)+2)
		if !device.Same(d, was) || d.Done() != was.Done() {
			t.Error("a text that is too long was written")
		}
	}
}

func TestTheLongestText(t *testing.T) {
	d := device.New(2 * 1367)
	w := opened(t, d, 0, 1367)
	saves(t, w, some(1, api.MaxFrame))
	is(t, "one more", w.Save(some(2, api.MaxFrame+1)), api.ErrLong)
	tells(t, "the longest one", w, some(1, api.MaxFrame), 1, 2)
	tells(t, "opened again", opened(t, d, 0, 1367), some(1, api.MaxFrame), 1, 2)
}

func TestAnEmptyText(t *testing.T) {
	for _, text := range [][]byte{nil, {}} {
		d := device.New(2)
		w := opened(t, d, 0, 1)
		saves(t, w, text)
		tells(t, "an empty text", w, nil, 1, 2)
		tells(t, "opened again", opened(t, d, 0, 1), nil, 1, 2)
	}
}

func TestASaveWithoutPower(t *testing.T) {
	d := device.New(4)
	w := opened(t, d, 0, 2)
	saves(t, w, some(1, 60))
	for n := range 3 { // two changes and a flush
		next := w.Next()
		d.Fuse(n)
		is(t, "the power goes", w.Save(some(2, 60)), api.ErrDown)
		tells(t, "what was saved ahead of it", w, some(1, 60), 1, next+1)
		is(t, "too long", w.Save(some(2, 89)), api.ErrLong)
		tells(t, "what was saved ahead of it", w, some(1, 60), 1, next+1)
		is(t, "no power", w.Save(some(2, 60)), api.ErrDown)
		tells(t, "what was saved ahead of both", w, some(1, 60), 1, next+2)
		d.Crash()
	}
	saves(t, w, some(3, 60))
	tells(t, "with power", w, some(3, 60), 8, 9)
	tells(t, "opened again", opened(t, d, 0, 2), some(3, 60), 8, 9)
}

func TestASaveGoesAgainWhereItFailed(t *testing.T) {
	d := device.New(4)
	w := opened(t, d, 0, 2)
	saves(t, w, some(1, 60))
	d.Fuse(2)
	is(t, "the power goes at the flush", w.Save(some(2, 60)), api.ErrDown)
	d.Crash(64, 64) // all of it is kept all the same
	tells(t, "opened again", opened(t, d, 0, 2), some(2, 60), 2, 3)
	saves(t, w, some(3, 60))
	holds(t, "the last one that was saved is left", d, 0, frameOf(t, 1, some(1, 60)))
	holds(t, "the other place", d, 2, frameOf(t, 3, some(3, 60)))
}

// P8.3

// keeps is lists of what may be kept of two changes.
func keeps() [][]int {
	l := [][]int{nil}
	some := []int{0, 1, 7, 8, 9, 12, 30, 55, 56, 57, 63, 64}
	for _, a := range some {
		for _, b := range some {
			l = append(l, []int{a, b})
		}
	}
	return l
}

// eachEnd saves on clones of a device, and lets the power go at each change, and at the flush, with each keep.
func eachEnd(t *testing.T, d *device.Device, text []byte, then func(c *device.Device, w *twin.Twin)) {
	t.Helper()
	for n := range frame.Sectors(len(text)) + 1 {
		for _, keep := range keeps() {
			c := d.Clone()
			w := opened(t, c, 1, 2)
			c.Fuse(n)
			is(t, "a save", w.Save(text), api.ErrDown)
			c.Crash(keep...)
			then(c, w)
		}
	}
}

// oneOf tells which of some texts is the last one; -1, if it is none of these, or none is.
func oneOf(w *twin.Twin, texts ...[]byte) int {
	b, ok := w.Last()
	if !ok {
		return -1
	}
	return slices.IndexFunc(texts, func(x []byte) bool { return bytes.Equal(x, b) })
}

func TestTheOldOneOrTheNewOne(t *testing.T) {
	old, fresh := some(1, 70), some(2, 80)
	for before := range 3 { // saves ahead of it
		d := device.New(5)
		w := opened(t, d, 1, 2)
		for n := range before {
			saves(t, w, some(9, 40*n))
		}
		saves(t, w, old)
		var seen [2]int
		eachEnd(t, d, fresh, func(c *device.Device, first *twin.Twin) {
			if first.Number() != w.Number() || oneOf(first, old) != 0 {
				t.Fatal("a save that failed is the last one")
			}
			again := opened(t, c, 1, 2)
			which := oneOf(again, old, fresh)
			if which < 0 {
				t.Fatalf("%d saves ahead: neither the old one nor the new one", before)
			}
			if again.Number() != w.Number()+uint64(which) || again.Next() <= again.Number() {
				t.Fatalf("the number %d, then %d", again.Number(), again.Next())
			}
			seen[which]++
		})
		if seen[0] == 0 || seen[1] == 0 {
			t.Errorf("%d saves ahead: %v", before, seen)
		}
	}
}

func TestNothingOrTheNewOne(t *testing.T) {
	d := device.New(5)
	fresh := some(2, 80)
	eachEnd(t, d, fresh, func(c *device.Device, _ *twin.Twin) {
		again := opened(t, c, 1, 2)
		if b, ok := again.Last(); ok && !bytes.Equal(b, fresh) || !ok && len(b) != 0 {
			t.Fatalf("%v, which nobody saved", b)
		}
	})
}

func TestOnceMoreBehindIt(t *testing.T) {
	old, fresh, third := some(1, 70), some(2, 80), some(3, 50)
	d := device.New(5)
	w := opened(t, d, 1, 2)
	saves(t, w, some(9, 88))
	saves(t, w, old)
	round := 0
	eachEnd(t, d, fresh, func(c *device.Device, _ *twin.Twin) {
		if round++; round%5 != 0 { // a fifth of all ends is enough to go on with
			return
		}
		was, _ := opened(t, c, 1, 2).Last()
		eachEnd(t, c, third, func(c *device.Device, _ *twin.Twin) {
			again := opened(t, c, 1, 2)
			if oneOf(again, was, third) < 0 {
				t.Fatal("neither the old one nor the new one, the second time")
			}
			saves(t, again, some(4, 88))
			if oneOf(opened(t, c, 1, 2), some(4, 88)) != 0 {
				t.Fatal("what was saved without an error is not the last one")
			}
		})
	})
}

func TestAsOftenAsMayBe(t *testing.T) {
	g := rand.New(rand.NewSource(8))
	failed := 0
	for range 300 {
		size := 1 + g.Intn(3)
		d := device.New(2*size + 1)
		w := opened(t, d, 1, size)
		saves(t, w, some(0, 5))
		may := [][]byte{some(0, 5)} // what the last one may be: a twin that is not opened again knows nothing of what failed
		for n := range 60 {
			text := some(n+1, g.Intn(w.Room()+1))
			d.Fuse(g.Intn(8) - 1)
			if w.Save(text) == api.OK {
				may = [][]byte{text}
				d.Crash(g.Intn(65), g.Intn(65))
			} else {
				failed++
				may = append(may, text)
				d.Crash(g.Intn(65), g.Intn(65), g.Intn(65))
			}
			again := opened(t, d, 1, size)
			which := oneOf(again, may...)
			if which < 0 {
				t.Fatal("neither the old one nor the new one")
			}
			if g.Intn(2) == 0 {
				w, may = again, may[which:][:1:1]
			}
		}
	}
	if failed < 1000 {
		t.Errorf("only %d saves failed", failed)
	}
}
