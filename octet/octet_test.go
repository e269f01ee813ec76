package octet_test

import (
	"bytes"
	"math"
	"math/rand"
	"strings"
	"testing"

	"keelson/api"
	"keelson/octet"
)

var badWidths = []int{0, -1, 9, 64, math.MaxInt, math.MinInt}

// P1.1

func TestPutWritesTheLowestByteFirst(t *testing.T) {
	const n = 0x1122334455667788
	whole := []byte{0x88, 0x77, 0x66, 0x55, 0x44, 0x33, 0x22, 0x11}
	for width := 1; width <= 8; width++ {
		if b := octet.Put(nil, width, n); !bytes.Equal(b, whole[:width]) {
			t.Errorf("width %d: %x", width, b)
		}
	}
	if b := octet.Put(nil, 3, 258); !bytes.Equal(b, []byte{2, 1, 0}) {
		t.Errorf("258 in 3 bytes: %v", b)
	}
	if b := octet.Put(nil, 8, math.MaxUint64); !bytes.Equal(b, bytes.Repeat([]byte{255}, 8)) {
		t.Errorf("the greatest number: %v", b)
	}
}

func TestPutTakesManyNumbersOrNone(t *testing.T) {
	if b := octet.Put([]byte{7, 8}, 2, 1, 0x0203, 0x10004); !bytes.Equal(b, []byte{7, 8, 1, 0, 3, 2, 4, 0}) {
		t.Errorf("three numbers: %v", b)
	}
	if b := octet.Put([]byte{7, 8}, 2); !bytes.Equal(b, []byte{7, 8}) {
		t.Errorf("no number: %v", b)
	}
	if b := octet.Put(nil, 8); len(b) != 0 {
		t.Errorf("nothing: %v", b)
	}
}

func TestPutOfABadWidth(t *testing.T) {
	for _, width := range badWidths {
		if b := octet.Put([]byte{7, 8}, width, 1, 2); !bytes.Equal(b, []byte{7, 8}) {
			t.Errorf("width %d: %v", width, b)
		}
		if b := octet.Put(nil, width, 1); len(b) != 0 {
			t.Errorf("width %d behind nothing: %v", width, b)
		}
	}
}

func TestTextWritesItsLength(t *testing.T) {
	b, e := octet.Text([]byte{7}, "ab")
	if e != api.OK || !bytes.Equal(b, []byte{7, 2, 0, 'a', 'b'}) {
		t.Errorf("ab: %v, %d", b, int(e))
	}
	b, e = octet.Text(nil, "")
	if e != api.OK || !bytes.Equal(b, []byte{0, 0}) {
		t.Errorf("no letter: %v, %d", b, int(e))
	}
	b, e = octet.Text(nil, "\xff\x00\xc3")
	if e != api.OK || !bytes.Equal(b, []byte{3, 0, 0xff, 0, 0xc3}) {
		t.Errorf("bytes that are no letters: %v, %d", b, int(e))
	}
}

func TestTextAtItsLimit(t *testing.T) {
	s := strings.Repeat("x", api.MaxText)
	b, e := octet.Text([]byte{7}, s)
	if e != api.OK || len(b) != 3+api.MaxText || b[1] != 0 || b[2] != 0x40 || string(b[3:]) != s {
		t.Errorf("MaxText: %d bytes, %d", len(b), int(e))
	}
	b, e = octet.Text([]byte{7}, s+"x")
	if e != api.ErrLong || len(b) != 0 {
		t.Errorf("one more: %d bytes, %d", len(b), int(e))
	}
}

func TestWhatIsHandedInStays(t *testing.T) {
	for _, write := range []func([]byte) []byte{
		func(b []byte) []byte { return octet.Put(b, 2, 0x0909) },
		func(b []byte) []byte { return octet.Put(b, 2) },
		func(b []byte) []byte { return octet.Put(b, 9, 1) },
		func(b []byte) []byte { b, _ = octet.Text(b, "ab"); return b },
		func(b []byte) []byte { b, _ = octet.Text(b, ""); return b },
	} {
		room := []byte{1, 2, 3, 4, 5, 6, 7, 8}
		out := write(room[:2])
		clear(out[:cap(out)])
		if !bytes.Equal(room, []byte{1, 2, 3, 4, 5, 6, 7, 8}) {
			t.Errorf("what was handed in is %v", room)
		}
		l := []uint64{1 << 40, 2, 3}
		octet.Put(nil, 1, l[:2]...)
		if l[0] != 1<<40 || l[1] != 2 || l[2] != 3 {
			t.Errorf("the numbers are %v", l)
		}
	}
}

// P1.2

func isGood(t *testing.T, what string, r *octet.Reader, left int) {
	t.Helper()
	if r.Bad() || r.Left() != left {
		t.Errorf("%s: bad %v, left %d, not %d", what, r.Bad(), r.Left(), left)
	}
	want := api.OK
	if left > 0 {
		want = api.ErrForm
	}
	if e := r.End(); e != want {
		t.Errorf("%s: end %d", what, int(e))
	}
}

func isBad(t *testing.T, what string, r *octet.Reader) {
	t.Helper()
	if !r.Bad() || r.Left() != 0 || r.End() != api.ErrForm {
		t.Errorf("%s: bad %v, left %d, end %d", what, r.Bad(), r.Left(), int(r.End()))
	}
	if r.Num(1) != 0 || r.Num(8) != 0 || r.Text() != "" || len(r.Take(0)) != 0 || len(r.Take(1)) != 0 {
		t.Errorf("%s: something is read of a bad one", what)
	}
	if !r.Bad() || r.Left() != 0 || r.End() != api.ErrForm {
		t.Errorf("%s: it doesn't stay bad", what)
	}
}

func TestNumReadsTheLowestByteFirst(t *testing.T) {
	whole := []byte{0x88, 0x77, 0x66, 0x55, 0x44, 0x33, 0x22, 0xf1, 0xee}
	for width := 1; width <= 8; width++ {
		r := octet.Read(whole)
		want := uint64(0xf122334455667788)
		if width < 8 {
			want &= 1<<(8*width) - 1
		}
		if n := r.Num(width); n != want {
			t.Errorf("width %d: %x", width, n)
		}
		isGood(t, "a number", r, len(whole)-width)
	}
}

func TestNumOfABadWidth(t *testing.T) {
	for _, width := range badWidths {
		r := octet.Read(make([]byte, 100))
		if n := r.Num(width); n != 0 {
			t.Errorf("width %d: %d", width, n)
		}
		isBad(t, "a bad width", r)
	}
}

func TestNumOfTooFewBytes(t *testing.T) {
	for width := 1; width <= 8; width++ {
		for have := range width {
			r := octet.Read(bytes.Repeat([]byte{9}, have))
			if n := r.Num(width); n != 0 {
				t.Errorf("%d bytes of %d: %d", have, width, n)
			}
			isBad(t, "too few bytes", r)
		}
	}
}

func TestTakeReadsBytesOfItsOwn(t *testing.T) {
	b := []byte{1, 2, 3, 4, 5}
	r := octet.Read(b)
	x := r.Take(2)
	isGood(t, "two", r, 3)
	y := r.Take(0)
	isGood(t, "none", r, 3)
	z := r.Take(3)
	isGood(t, "the rest", r, 0)
	if !bytes.Equal(x, []byte{1, 2}) || len(y) != 0 || !bytes.Equal(z, []byte{3, 4, 5}) {
		t.Errorf("%v %v %v", x, y, z)
	}
	clear(x[:cap(x)])
	if !bytes.Equal(z, []byte{3, 4, 5}) || !bytes.Equal(b, []byte{1, 2, 3, 4, 5}) {
		t.Errorf("memory is shared: %v %v", z, b)
	}
	if e := r.Take(0); len(e) != 0 {
		t.Errorf("none at the end: %v", e)
	}
	isGood(t, "none at the end", r, 0)
}

func TestTakeOfBytesThatAreNotThere(t *testing.T) {
	for _, n := range []int{-1, math.MinInt, 4, 5, math.MaxInt} {
		r := octet.Read([]byte{1, 2, 3})
		if b := r.Take(n); len(b) != 0 {
			t.Errorf("%d: %v", n, b)
		}
		isBad(t, "a wrong number of bytes", r)
	}
}

func TestTextReadsAText(t *testing.T) {
	r := octet.Read([]byte{2, 0, 'a', 0xff, 0, 0, 1, 0, 'c', 9})
	if s := r.Text(); s != "a\xff" {
		t.Errorf("%q", s)
	}
	isGood(t, "a text", r, 6)
	if s := r.Text(); s != "" {
		t.Errorf("%q", s)
	}
	isGood(t, "an empty text", r, 4)
	if s := r.Text(); s != "c" {
		t.Errorf("%q", s)
	}
	isGood(t, "one more text", r, 1)
}

func TestTextOfTooFewBytes(t *testing.T) {
	for _, b := range [][]byte{{}, {0}, {1, 0}, {3, 0, 'a', 'b'}, {0, 1, 'a'}} {
		r := octet.Read(b)
		if s := r.Text(); s != "" {
			t.Errorf("%v: %q", b, s)
		}
		isBad(t, "too few bytes", r)
	}
}

func TestTextThatIsTooLong(t *testing.T) {
	b := append([]byte{0, 0x40}, bytes.Repeat([]byte{'x'}, 1<<16)...)
	r := octet.Read(b)
	if s := r.Text(); s != strings.Repeat("x", api.MaxText) {
		t.Errorf("MaxText: %d bytes", len(s))
	}
	isGood(t, "MaxText", r, 1<<16-api.MaxText)
	for _, n := range []int{api.MaxText + 1, 1<<16 - 1} {
		b[0], b[1] = byte(n), byte(n>>8)
		r = octet.Read(b)
		if s := r.Text(); s != "" {
			t.Errorf("a text of %d: %d bytes", n, len(s))
		}
		isBad(t, "a text that is too long", r)
	}
}

func TestFail(t *testing.T) {
	r := octet.Read([]byte{1, 2, 3})
	r.Num(1)
	r.Fail()
	isBad(t, "a failed one", r)
	r.Fail()
	isBad(t, "one that failed twice", r)
	r = octet.Read(nil)
	r.Fail()
	isBad(t, "a failed one of no bytes", r)
}

func TestReadersOfNothing(t *testing.T) {
	isGood(t, "nil bytes", octet.Read(nil), 0)
	isGood(t, "no bytes", octet.Read([]byte{}), 0)
	var plain octet.Reader
	isGood(t, "a plain one", &plain, 0)
	if len(plain.Take(0)) != 0 {
		t.Error("bytes of a plain one")
	}
	isGood(t, "a plain one behind Take(0)", &plain, 0)
	if plain.Num(1) != 0 {
		t.Error("a number of a plain one")
	}
	isBad(t, "a plain one that was read", &plain)
	text := octet.Reader{}
	if text.Text() != "" {
		t.Error("a text of a plain one")
	}
	isBad(t, "a plain one whose text was read", &text)
	failed := octet.Reader{}
	failed.Fail()
	isBad(t, "a plain one that failed", &failed)
}

func TestReaderThatIsNil(t *testing.T) {
	var r *octet.Reader
	r.Fail()
	if r.Num(1) != 0 || r.Num(0) != 0 || r.Text() != "" || len(r.Take(1)) != 0 || len(r.Take(-1)) != 0 || r.Left() != 0 || r.Bad() {
		t.Error("something is told of nil")
	}
	if e := r.End(); e != api.ErrNil {
		t.Errorf("end %d", int(e))
	}
}

func TestReaderLeavesBytesAlone(t *testing.T) {
	room := []byte{5, 1, 0, 'a', 6, 7, 8, 9}
	r := octet.Read(room[:5])
	if r.Num(1) != 5 {
		t.Error("the first number")
	}
	clear(room)
	if s := r.Text(); s != "a" {
		t.Errorf("what is written later is read: %q", s)
	}
	if b := r.Take(1); !bytes.Equal(b, []byte{6}) {
		t.Errorf("what is written later is read: %v", b)
	}
	isGood(t, "all but the spare room", r, 0)
	r = octet.Read([]byte{1, 2, 3, 4}[:2])
	if b := r.Take(3); len(b) != 0 {
		t.Errorf("the spare room is read: %v", b)
	}
	isBad(t, "the spare room", r)
}

func TestTwoReadersOfTheSameBytes(t *testing.T) {
	b := []byte{1, 2}
	p, q := octet.Read(b), octet.Read(b)
	p.Num(2)
	q.Fail()
	isGood(t, "one", p, 0)
	isBad(t, "the other", q)
}

// P1.3

// part is a number of so many bytes, bytes, or a text.
type part struct {
	width int
	num   uint64
	text  string
	raw   bool
}

func somePart(g *rand.Rand) part {
	if g.Intn(3) > 0 {
		width := 1 + g.Intn(8)
		return part{width: width, num: g.Uint64() >> (64 - 8*width)}
	}
	b := make([]byte, g.Intn(40))
	g.Read(b)
	return part{text: string(b), raw: g.Intn(2) == 0}
}

func put(t *testing.T, b []byte, p part) []byte {
	if p.width > 0 {
		return octet.Put(b, p.width, p.num)
	}
	if p.raw {
		return append(b, p.text...)
	}
	b, e := octet.Text(b, p.text)
	if e != api.OK {
		t.Fatal(int(e))
	}
	return b
}

// read reads a part of p's kind: of bytes as many as p has.
func read(r *octet.Reader, p part) part {
	if p.width > 0 {
		return part{width: p.width, num: r.Num(p.width)}
	}
	if p.raw {
		return part{text: string(r.Take(len(p.text))), raw: true}
	}
	return part{text: r.Text()}
}

func TestWhatIsPutIsRead(t *testing.T) {
	g := rand.New(rand.NewSource(1))
	for range 500 {
		parts := make([]part, g.Intn(12))
		var b []byte
		for i := range parts {
			parts[i] = somePart(g)
			b = put(t, b, parts[i])
		}
		r := octet.Read(b)
		for _, p := range parts {
			if q := read(r, p); q != p {
				t.Fatalf("%+v is read as %+v", p, q)
			}
		}
		isGood(t, "all that was put", r, 0)
		for n := range len(b) {
			r = octet.Read(b[:n])
			for _, p := range parts {
				read(r, p)
			}
			if len(parts) > 0 && r.End() != api.ErrForm {
				t.Fatalf("%d bytes of %d are read as all", n, len(b))
			}
		}
	}
}

func TestWhatIsReadWasPutSo(t *testing.T) {
	g := rand.New(rand.NewSource(2))
	whole := 0
	for range 20000 {
		b := make([]byte, g.Intn(24))
		g.Read(b)
		for i := range b {
			if g.Intn(2) == 0 {
				b[i] &= 3
			}
		}
		r := octet.Read(b)
		var again []byte
		for range 200 { // a part may have no bytes
			if r.Left() == 0 {
				break
			}
			p := read(r, somePart(g))
			if !r.Bad() {
				again = put(t, again, p)
			}
		}
		if r.End() != api.OK {
			continue
		}
		whole++
		if !bytes.Equal(again, b) {
			t.Fatalf("%v is read, and put as %v", b, again)
		}
	}
	if whole < 1000 {
		t.Errorf("only %d were read whole", whole)
	}
}

func TestPutLeavesOutWhatDoesNotFit(t *testing.T) {
	const n = 0xfedcba9876543210
	for width := 1; width <= 7; width++ {
		r := octet.Read(octet.Put(nil, width, n))
		if got := r.Num(width); got != n&(1<<(8*width)-1) || r.End() != api.OK {
			t.Errorf("width %d: %x, end %d", width, got, int(r.End()))
		}
	}
}
