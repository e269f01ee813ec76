package vow_test

import (
	"bytes"
	"encoding/binary"
	"math"
	"math/rand"
	"slices"
	"testing"

	"keelson/api"
	"keelson/device"
	"keelson/frame"
	"keelson/vow"
)

const greatest = math.MaxUint64

func is(t *testing.T, what string, got, want api.Errno) {
	t.Helper()
	if got != want {
		t.Errorf("%s: %d, not %d", what, int(got), int(want))
	}
}

func opened(t *testing.T, d *device.Device, base int) *vow.Vow {
	t.Helper()
	v, e := vow.Open(d, base)
	if v == nil || e != api.OK {
		t.Fatalf("from %d on: %d", base, int(e))
	}
	return v
}

func refuses(t *testing.T, what string, d *device.Device, base int, want api.Errno) {
	t.Helper()
	if v, e := vow.Open(d, base); v != nil || e != want {
		t.Errorf("%s: %v, %d, not %d", what, v, int(e), int(want))
	}
}

// none is a vote for nobody.
const none = -1

// tells is what a vow says. A vote for nobody is told as 0 and false.
func tells(t *testing.T, what string, v *vow.Vow, term uint64, vote int) {
	t.Helper()
	node, ok := v.Vote()
	if v.Term() != term || ok != (vote != none) || node != max(vote, 0) {
		t.Errorf("%s: the term %d, %d, %v, not %d, %d", what, v.Term(), node, ok, term, vote)
	}
}

// text is a term and a vote as they are saved.
func text(term uint64, vote byte) []byte {
	return append(binary.LittleEndian.AppendUint64(nil, term), vote)
}

// lay makes a frame safe on a device.
func lay(t *testing.T, d *device.Device, at int, number uint64, b []byte) {
	t.Helper()
	f, e := frame.Make(number, b)
	is(t, "a frame", e, api.OK)
	is(t, "writing", d.Write(at, f), api.OK)
	is(t, "flushing", d.Flush(), api.OK)
}

// saved tells whether a sector of a device is the frame of a term and a vote.
func saved(t *testing.T, what string, d *device.Device, at int, number, term uint64, vote byte) {
	t.Helper()
	want, _ := frame.Make(number, text(term, vote))
	if b, e := d.Read(at, 1); e != api.OK || !bytes.Equal(b, want) {
		t.Errorf("%s: the sector %d is %v, %d, not %v", what, at, b, int(e), want)
	}
}

// does tells whether an act has an error, without which so many changes and flushes belong to it, and leaves all as it was with one.
func does(t *testing.T, what string, d *device.Device, act func() api.Errno, want api.Errno, steps int) {
	t.Helper()
	was, done := d.Clone(), d.Done()
	is(t, what, act(), want)
	if d.Done() != done+steps {
		t.Errorf("%s: %d changes and flushes, not %d", what, d.Done()-done, steps)
	}
	if steps == 0 && !device.Same(d, was) {
		t.Errorf("%s: the device is another one", what)
	}
}

func raising(v *vow.Vow, term uint64) func() api.Errno {
	return func() api.Errno { return v.Raise(term) }
}

func casting(v *vow.Vow, term uint64, node int) func() api.Errno {
	return func() api.Errno { return v.Cast(term, node) }
}

// at is a vow of a new device that has promised a term, and a vote.
func at(t *testing.T, term uint64, vote int) (*device.Device, *vow.Vow) {
	t.Helper()
	d := device.New(4)
	lay(t, d, 2, 7, text(term, byte(vote+1)))
	v := opened(t, d, 1)
	tells(t, "a vow", v, term, vote)
	return d, v
}

// P12.1

func TestOpenOfNoDevice(t *testing.T) {
	refuses(t, "nil", nil, 0, api.ErrNil)
	refuses(t, "nil, and no room", nil, -1, api.ErrNil)
	down := device.New(4)
	down.Fuse(0)
	down.Flush()
	refuses(t, "no power", down, 0, api.ErrDown)
	refuses(t, "no power, and no room", down, -1, api.ErrDown)
	refuses(t, "a device that no call made", &device.Device{}, 0, api.ErrRange)
}

func TestOpenWithinBounds(t *testing.T) {
	if vow.Sectors != 2 {
		t.Errorf("it takes %d sectors", vow.Sectors)
	}
	for _, sectors := range []int{1, 2, 3, 4, 9, api.MaxSectors} {
		d := device.New(sectors)
		for _, base := range []int{math.MinInt, -2, -1, 0, 1, 2, 3, 4, sectors - 3, sectors - 2, sectors - 1, sectors, sectors + 1, math.MaxInt - 1, math.MaxInt} {
			if base < 0 || base > sectors-2 {
				refuses(t, "no room", d, base, api.ErrRange)
			} else {
				tells(t, "nobody wrote there", opened(t, d, base), 0, none)
			}
		}
		if d.Done() != 0 {
			t.Error("Open changed the device")
		}
	}
}

func TestOpenOfWhatWasSaved(t *testing.T) {
	for _, term := range []uint64{0, 1, 2, 255, 256, 1 << 32, api.MaxIndex - 1, api.MaxIndex} {
		for vote := range 256 {
			for place := range 2 {
				d := device.New(5)
				lay(t, d, 2+place, 9, text(term, byte(vote)))
				if vote > api.MaxNodes {
					refuses(t, "no vote", d, 2, api.ErrForm)
				} else {
					tells(t, "a term and a vote", opened(t, d, 2), term, vote-1)
				}
			}
		}
	}
}

func TestOpenOfATextOfAnotherLength(t *testing.T) {
	for n := range 41 {
		for _, fill := range []byte{0, 1} {
			d := device.New(2)
			lay(t, d, 0, 9, bytes.Repeat([]byte{fill}, n))
			if n != 9 {
				refuses(t, "too short, or too long", d, 0, api.ErrForm)
			} else if _, e := vow.Open(d, 0); e != api.OK {
				t.Errorf("9 bytes: %d", int(e))
			}
		}
	}
}

func TestOpenOfATermThatIsTooGreat(t *testing.T) {
	d, v := at(t, greatest-2, 3) // it has its 8 bytes
	does(t, "a greater one", d, raising(v, greatest-1), api.ErrRange, 0)
	does(t, "a lesser one that is too great, too", d, raising(v, api.MaxIndex+1), api.ErrRange, 0)
	does(t, "the greatest one that may be", d, raising(v, api.MaxIndex), api.ErrOld, 0)
	does(t, "a vote", d, casting(v, api.MaxIndex, 3), api.ErrOld, 0)
	does(t, "a vote in it", d, casting(v, greatest-2, 3), api.ErrRange, 0)
}

func TestOpenTellsTheLastOfBothPlaces(t *testing.T) {
	for _, c := range []struct{ first, second uint64 }{{1, 2}, {2, 1}, {5, 5}, {1, greatest}} {
		d := device.New(2)
		lay(t, d, 0, c.first, text(10, 1))
		lay(t, d, 1, c.second, text(20, 0))
		if c.second > c.first {
			tells(t, "the second one", opened(t, d, 0), 20, none)
		} else {
			tells(t, "the first one", opened(t, d, 0), 10, 0)
		}
		lay(t, d, 1, c.second, text(20, 8))
		if c.second > c.first {
			refuses(t, "the last one is no vote", d, 0, api.ErrForm)
		} else {
			tells(t, "the one ahead of it is no vote", opened(t, d, 0), 10, 0)
		}
	}
	d := device.New(6)
	for i := range 6 {
		lay(t, d, i, uint64(i)+1, text(uint64(i), 0))
	}
	tells(t, "what lies outside is not read", opened(t, d, 2), 3, none)
	is(t, "a torn one", d.Write(3, bytes.Repeat([]byte{1}, 64)), api.OK)
	tells(t, "a torn one is none", opened(t, d, 2), 2, none)
	is(t, "both are torn", d.Write(2, bytes.Repeat([]byte{1}, 64)), api.OK)
	tells(t, "both are torn", opened(t, d, 2), 0, none)
}

func TestVowsThatAreNoneOrThatNoCallMade(t *testing.T) {
	for _, v := range []*vow.Vow{nil, {}} {
		for range 2 {
			tells(t, "none", v, 0, none)
			for _, term := range []uint64{0, 1, api.MaxIndex, api.MaxIndex + 1} {
				is(t, "a term", v.Raise(term), api.ErrNil)
				for _, node := range []int{-1, 0, 7} {
					is(t, "a vote", v.Cast(term, node), api.ErrNil)
				}
			}
		}
	}
}

// P12.2

func TestRaise(t *testing.T) {
	for _, vote := range []int{none, 0, 3, 6} {
		for _, term := range []uint64{0, 1, 2, 9, 1 << 40, api.MaxIndex - 1, api.MaxIndex} {
			for _, to := range []uint64{0, 1, 2, 3, 8, 9, 10, 1 << 40, 1<<40 + 1, api.MaxIndex - 1, api.MaxIndex} {
				d, v := at(t, term, vote)
				switch {
				case to < term:
					does(t, "less", d, raising(v, to), api.ErrOld, 0)
					tells(t, "less", v, term, vote)
				case to == term:
					does(t, "the same", d, raising(v, to), api.OK, 0)
					tells(t, "the same", v, term, vote)
				default:
					does(t, "more", d, raising(v, to), api.OK, 2)
					tells(t, "more", v, to, none)
					saved(t, "more", d, 1, 8, to, 0)
					tells(t, "more, opened again", opened(t, d, 1), to, none)
				}
			}
			d, v := at(t, term, vote)
			for _, to := range []uint64{api.MaxIndex + 1, 1 << 63, greatest} {
				does(t, "too great", d, raising(v, to), api.ErrRange, 0)
				tells(t, "too great", v, term, vote)
			}
		}
	}
}

func TestCast(t *testing.T) {
	for _, vote := range []int{none, 0, 3, 6} {
		for _, term := range []uint64{0, 1, 9, api.MaxIndex - 1, api.MaxIndex} {
			for _, in := range []uint64{0, 1, 2, 8, 9, 10, 1 << 40, api.MaxIndex - 1, api.MaxIndex} {
				for node := range api.MaxNodes {
					d, v := at(t, term, vote)
					switch {
					case in < term:
						does(t, "an older term", d, casting(v, in, node), api.ErrOld, 0)
						tells(t, "an older term", v, term, vote)
					case in == term && vote == node:
						does(t, "the same vote", d, casting(v, in, node), api.OK, 0)
						tells(t, "the same vote", v, term, vote)
					case in == term && vote != none:
						does(t, "another node", d, casting(v, in, node), api.ErrThere, 0)
						tells(t, "another node", v, term, vote)
					default:
						does(t, "a vote", d, casting(v, in, node), api.OK, 2)
						tells(t, "a vote", v, in, node)
						saved(t, "a vote", d, 1, 8, in, byte(node)+1)
						tells(t, "a vote, opened again", opened(t, d, 1), in, node)
					}
				}
			}
		}
	}
}

func TestCastForWhoIsNoNodeOrInNoTerm(t *testing.T) {
	for _, term := range []uint64{0, 9, api.MaxIndex} {
		for _, vote := range []int{none, 3} {
			d, v := at(t, term, vote)
			for _, in := range []uint64{0, 8, term, term + 1, api.MaxIndex, api.MaxIndex + 1, greatest} {
				for _, node := range []int{math.MinInt, -256, -2, -1, 7, 8, 255, 256, 1 << 32, 1<<32 + 3, math.MaxInt} {
					does(t, "no node", d, casting(v, in, node), api.ErrRange, 0)
				}
			}
			for _, in := range []uint64{api.MaxIndex + 1, 1 << 63, greatest} {
				for node := range api.MaxNodes {
					does(t, "no term", d, casting(v, in, node), api.ErrRange, 0)
				}
			}
			tells(t, "no node, or no term", v, term, vote)
		}
	}
}

func TestWhatIsRefusedIsRefusedWithoutPower(t *testing.T) {
	d, v := at(t, 9, 3)
	d.Fuse(0)
	d.Flush()
	does(t, "a lesser term", d, raising(v, 8), api.ErrOld, 0)
	does(t, "the same term", d, raising(v, 9), api.OK, 0)
	does(t, "a term that is too great", d, raising(v, api.MaxIndex+1), api.ErrRange, 0)
	does(t, "a vote in an older term", d, casting(v, 8, 3), api.ErrOld, 0)
	does(t, "the same vote", d, casting(v, 9, 3), api.OK, 0)
	does(t, "another vote", d, casting(v, 9, 4), api.ErrThere, 0)
	does(t, "a vote for no node", d, casting(v, 10, 7), api.ErrRange, 0)
	does(t, "a greater term", d, raising(v, 10), api.ErrDown, 0)
	does(t, "a vote in a greater term", d, casting(v, 10, 3), api.ErrDown, 0)
	tells(t, "no power", v, 9, 3)
}

func TestNoNumberIsLeft(t *testing.T) {
	d := device.New(2)
	lay(t, d, 0, greatest-1, text(9, 4))
	v := opened(t, d, 0)
	does(t, "the last number", d, raising(v, 10), api.OK, 2)
	does(t, "none is left", d, raising(v, 11), api.ErrFull, 0)
	does(t, "none is left", d, casting(v, 10, 2), api.ErrFull, 0)
	does(t, "nothing is to be saved", d, raising(v, 10), api.OK, 0)
	tells(t, "what was saved", v, 10, none)
	tells(t, "opened again", opened(t, d, 0), 10, none)
}

func TestSavesGoByTurns(t *testing.T) {
	d := device.New(5)
	fill := bytes.Repeat([]byte{5}, 5*64)
	is(t, "writing", d.Write(0, fill), api.OK)
	is(t, "flushing", d.Flush(), api.OK)
	v := opened(t, d, 2)
	next := frame.Most(fill) + 1
	for n := range uint64(6) {
		does(t, "a term", d, raising(v, 2*n+1), api.OK, 2)
		saved(t, "a term", d, 2, next+2*n, 2*n+1, 0)
		does(t, "a vote", d, casting(v, 2*n+1, int(n)), api.OK, 2)
		saved(t, "a term is left", d, 2, next+2*n, 2*n+1, 0)
		saved(t, "a vote", d, 3, next+2*n+1, 2*n+1, byte(n)+1)
	}
	for _, i := range []int{0, 1, 4} {
		if b, _ := d.Read(i, 1); !bytes.Equal(b, fill[:64]) {
			t.Errorf("the sector %d was written", i)
		}
	}
}

func TestTheExample(t *testing.T) {
	d := device.New(2)
	v := opened(t, d, 0)
	does(t, "a vote for 1", d, casting(v, 3, 1), api.OK, 2)
	does(t, "a vote for 2", d, casting(v, 3, 2), api.ErrThere, 0)
	tells(t, "the vote stays", v, 3, 1)
	does(t, "the next term", d, raising(v, 4), api.OK, 2)
	tells(t, "no vote", v, 4, none)
}

// P12.3

// promised is a telling of its own of a term and a vote.
type promised struct {
	term uint64
	vote int
}

func said(v *vow.Vow) promised {
	p := promised{v.Term(), none}
	if node, ok := v.Vote(); ok {
		p.vote = node
	}
	return p
}

func TestThePowerGoesInASave(t *testing.T) {
	acts := []struct {
		what string
		act  func(v *vow.Vow) api.Errno
		then promised
	}{
		{"a term", func(v *vow.Vow) api.Errno { return v.Raise(10) }, promised{10, none}},
		{"a vote", func(v *vow.Vow) api.Errno { return v.Cast(10, 5) }, promised{10, 5}},
		{"a vote in the same term", func(v *vow.Vow) api.Errno { return v.Cast(9, 0) }, promised{9, 0}},
	}
	for _, a := range acts {
		for before := range 3 { // what was saved ahead of it
			d := device.New(4)
			for n := range before {
				v := opened(t, d, 1)
				is(t, "a term", v.Raise(uint64(9-before+n+1)), api.OK)
			}
			was := said(opened(t, d, 1))
			var seen [2]int
			for fuse := range 2 { // the change, and the flush
				for keep := range 65 {
					c := d.Clone()
					v := opened(t, c, 1)
					c.Fuse(fuse)
					does(t, a.what, c, func() api.Errno { return a.act(v) }, api.ErrDown, fuse+1)
					tells(t, a.what+": what was promised", v, was.term, was.vote)
					does(t, a.what+", without power", c, func() api.Errno { return a.act(v) }, api.ErrDown, 0)
					c.Crash(keep)
					tells(t, a.what+": what was promised", v, was.term, was.vote)
					switch again := said(opened(t, c, 1)); again {
					case was:
						seen[0]++
					case a.then:
						seen[1]++
					default:
						t.Errorf("%s, of which %d bytes are kept: %v, neither %v nor %v", a.what, keep, again, was, a.then)
					}
					is(t, a.what+", asked again", a.act(v), api.OK)
					tells(t, a.what+", asked again", v, a.then.term, a.then.vote)
					tells(t, a.what+", asked again, and opened again", opened(t, c, 1), a.then.term, a.then.vote)
				}
			}
			if seen[0] == 0 || seen[1] == 0 {
				t.Errorf("%s: %v", a.what, seen)
			}
		}
	}
}

func TestKeptWhateverIsAsked(t *testing.T) {
	g := rand.New(rand.NewSource(123))
	failed, good := 0, 0
	for range 400 {
		d := device.New(3)
		v := opened(t, d, 1)
		votes := map[uint64]int{}    // that were answered without an error
		may := []promised{{0, none}} // what it may be: the first one is what it is for sure, the others failed
		for range 80 {
			term, node, asks := uint64(g.Intn(4)), g.Intn(api.MaxNodes), g.Intn(2) == 0
			if term += v.Term(); term > 0 {
				term--
			}
			d.Fuse(g.Intn(8) - 4)
			was, want, e := said(v), promised{term, none}, api.OK
			if asks {
				e = v.Raise(term)
			} else {
				want.vote = node
				e = v.Cast(term, node)
			}
			switch {
			case e == api.ErrDown:
				failed++
				may = append(may, want)
				tells(t, "it goes on with what was promised", v, was.term, was.vote)
			case e != api.OK:
				tells(t, "what was refused", v, was.term, was.vote)
			case asks && term == was.term: // nothing is to be saved
				tells(t, "the same term", v, was.term, was.vote)
			default:
				good++
				tells(t, "what was asked", v, want.term, want.vote)
				if want != was {
					may = []promised{want}
				}
				if other, ok := votes[term]; !asks && ok && other != node {
					t.Fatalf("votes for %d and %d in the term %d", other, node, term)
				}
				if !asks {
					votes[term] = node
				}
			}
			if v.Term() < was.term {
				t.Fatal("the term fell")
			}
			d.Crash(g.Intn(65))
			again := opened(t, d, 1)
			if !slices.Contains(may, said(again)) || again.Term() < v.Term() {
				t.Fatalf("opened again it is %v, not one of %v", said(again), may)
			}
			if g.Intn(3) == 0 {
				v, may = again, []promised{said(again)}
			}
		}
	}
	if failed < 1000 || good < 1000 {
		t.Errorf("%d failed, and %d did not", failed, good)
	}
}
