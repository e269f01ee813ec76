package draw_test

import (
	"bytes"
	"math"
	"math/big"
	"math/rand"
	"slices"
	"strings"
	"testing"

	"keelson/draw"
)

const most = 1 << 16 // that one call draws

// none is Sources that have no bytes.
func none() map[string]*draw.Source {
	return map[string]*draw.Source{
		"nil":           nil,
		"made by none":  {},
		"of nothing":    draw.New(nil),
		"of no byte":    draw.New([]byte{}),
		"all drawn":     drawn(),
		"of spare room": draw.New(make([]byte, 0, 9)),
	}
}

func drawn() *draw.Source {
	s := draw.New([]byte{7, 8, 9})
	s.Bytes(3)
	return s
}

func some(g *rand.Rand, n int) []byte {
	b := make([]byte, n)
	g.Read(b)
	return b
}

// width is how many bytes n less 1 needs, at least 1.
func width(n int) int {
	return max(1, len(big.NewInt(int64(n-1)).Bytes()))
}

// numberOf is what Num(n) promises of the bytes b, those that are not there being 0, and how many are taken.
func numberOf(b []byte, n int) (number, taken int) {
	if n < 2 {
		return 0, 0
	}
	next := make([]byte, width(n))
	taken = copy(next, b)
	x := new(big.Int).SetBytes(next)
	return int(x.Mod(x, big.NewInt(int64(n))).Int64()), taken
}

func hasLeft(t *testing.T, what string, s *draw.Source, left int) {
	t.Helper()
	if s.Left() != left {
		t.Errorf("%s: %d are left, not %d", what, s.Left(), left)
	}
}

// P6.1

func TestByteTakesTheNextOne(t *testing.T) {
	b := []byte{7, 0, 255, 1}
	s := draw.New(b)
	for i, want := range b {
		hasLeft(t, "ahead of a byte", s, len(b)-i)
		if x := s.Byte(); x != want {
			t.Errorf("the byte %d is %d", i, x)
		}
	}
	for range 3 {
		hasLeft(t, "at the end", s, 0)
		if x := s.Byte(); x != 0 {
			t.Errorf("behind the end: %d", x)
		}
	}
}

func TestWhatIsHandedInStays(t *testing.T) {
	room := []byte{1, 2, 3, 4, 5}
	s := draw.New(room[:3])
	b := s.Bytes(2)
	clear(b[:cap(b)])
	if !bytes.Equal(room, []byte{1, 2, 3, 4, 5}) {
		t.Errorf("what was handed in is %v", room)
	}
	room[2] = 9
	if x := s.Byte(); x != 3 {
		t.Errorf("a choice came to be %d", x)
	}
	if x := s.Byte(); x != 0 {
		t.Errorf("%d lies in the spare room", x)
	}
}

func TestNum(t *testing.T) {
	s := draw.New([]byte{7, 1})
	if n := s.Num(5); n != 2 {
		t.Errorf("7 modulo 5: %d", n)
	}
	if n := s.Num(300); n != 256 {
		t.Errorf("1 and nothing behind it, modulo 300: %d", n)
	}
	hasLeft(t, "at the end", s, 0)
}

func TestNumTakesAsManyBytesAsItNeeds(t *testing.T) {
	b := []byte{1, 2, 3, 4, 5, 6, 7, 8, 9}
	for _, c := range []struct{ n, number, taken int }{
		{2, 1, 1}, {3, 1, 1}, {255, 1, 1}, {256, 1, 1},
		{257, 1, 2}, {300, 258, 2}, {65535, 258, 2}, {65536, 258, 2},
		{65537, 66051 % 65537, 3}, {1 << 24, 66051, 3}, {1<<24 + 1, 16909060 % (1<<24 + 1), 4},
		{1 << 32, 0x01020304, 4}, {1<<32 + 1, 0x0102030405 % (1<<32 + 1), 5}, {1 << 40, 0x0102030405, 5},
		{1 << 48, 0x010203040506, 6}, {1 << 56, 0x01020304050607, 7}, {1<<56 + 1, 0x0102030405060708 % (1<<56 + 1), 8},
		{1 << 62, 0x0102030405060708, 8}, {math.MaxInt, 0x0102030405060708, 8},
	} {
		s := draw.New(b)
		if n := s.Num(c.n); n != c.number {
			t.Errorf("below %d: %d", c.n, n)
		}
		hasLeft(t, "behind a number", s, len(b)-c.taken)
	}
}

func TestNumBelowTwoTakesNoByte(t *testing.T) {
	s := draw.New([]byte{200, 201})
	for _, n := range []int{1, 0, -1, -256, -257, math.MinInt} {
		if k := s.Num(n); k != 0 {
			t.Errorf("below %d: %d", n, k)
		}
		hasLeft(t, "below two", s, 2)
	}
}

func TestNumOfAnyBytes(t *testing.T) {
	g := rand.New(rand.NewSource(1))
	bounds := []int{2, 3, 10, 255, 256, 257, 65535, 65536, 65537, 1<<24 - 1, 1 << 24, 1<<31 - 1, 1 << 31, 1<<56 + 1, 1 << 62, math.MaxInt - 1, math.MaxInt}
	for range 5000 {
		b := some(g, g.Intn(12))
		if g.Intn(3) == 0 {
			copy(b, bytes.Repeat([]byte{255}, 12))
		}
		n := bounds[g.Intn(len(bounds))]
		s := draw.New(b)
		want, taken := numberOf(b, n)
		if k := s.Num(n); k != want {
			t.Fatalf("below %d of %v: %d, not %d", n, b, k, want)
		}
		hasLeft(t, "behind a number", s, len(b)-taken)
	}
}

func TestBytes(t *testing.T) {
	s := draw.New([]byte{9, 8, 255, 0, 6})
	if b := s.Bytes(3); !bytes.Equal(b, []byte{9, 8, 255}) {
		t.Errorf("three: %v", b)
	}
	for _, n := range []int{0, -1, math.MinInt} {
		if b := s.Bytes(n); len(b) != 0 {
			t.Errorf("%d: %v", n, b)
		}
		hasLeft(t, "none", s, 2)
	}
	if b := s.Bytes(4); !bytes.Equal(b, []byte{0, 6, 0, 0}) {
		t.Errorf("more than there are: %v", b)
	}
	hasLeft(t, "at the end", s, 0)
}

func TestText(t *testing.T) {
	s := draw.New([]byte{0, 1, 25, 26, 51, 52, 255, 3})
	if x := s.Text(7); x != "abzazav" {
		t.Errorf("seven: %q", x)
	}
	for _, n := range []int{0, -1, math.MinInt} {
		if x := s.Text(n); x != "" {
			t.Errorf("%d: %q", n, x)
		}
		hasLeft(t, "none", s, 1)
	}
	if x := s.Text(3); x != "daa" {
		t.Errorf("more than there are: %q", x)
	}
	hasLeft(t, "at the end", s, 0)
}

func TestNums(t *testing.T) {
	s := draw.New([]byte{7, 1, 0, 2, 3, 4})
	if l := s.Nums(2, 5); !slices.Equal(l, []int{2, 1}) {
		t.Errorf("below 5: %v", l)
	}
	for _, n := range []int{1, 0, -1, math.MinInt} {
		if l := s.Nums(3, n); !slices.Equal(l, []int{0, 0, 0}) {
			t.Errorf("below %d: %v", n, l)
		}
		hasLeft(t, "below two", s, 4)
	}
	for _, count := range []int{0, -1, math.MinInt} {
		if l := s.Nums(count, 5); len(l) != 0 {
			t.Errorf("%d: %v", count, l)
		}
		hasLeft(t, "none", s, 4)
	}
	if l := s.Nums(3, 1000); !slices.Equal(l, []int{2, 3*256 + 4, 0}) {
		t.Errorf("below 1000: %v", l)
	}
	hasLeft(t, "at the end", s, 0)
}

func TestNumsAreDrawnOneByOne(t *testing.T) {
	g := rand.New(rand.NewSource(2))
	for range 1000 {
		b := some(g, g.Intn(30))
		n := []int{1, 2, 26, 256, 257, 70000}[g.Intn(6)]
		count := g.Intn(20)
		var want []int
		left := b
		for range count {
			k, taken := numberOf(left, n)
			left = left[taken:]
			want = append(want, k)
		}
		s := draw.New(b)
		if l := s.Nums(count, n); !slices.Equal(l, want) {
			t.Fatalf("%d below %d of %v: %v, not %v", count, n, b, l, want)
		}
		hasLeft(t, "behind numbers", s, len(left))
	}
}

func TestWhatIsHandedOutIsItsOwn(t *testing.T) {
	s := draw.New([]byte{1, 2, 3, 4})
	b := s.Bytes(2)
	clear(b[:cap(b)])
	if c := s.Bytes(2); !bytes.Equal(c, []byte{3, 4}) {
		t.Errorf("what is left is %v", c)
	}
}

func TestAtMostSoManyAreDrawn(t *testing.T) {
	b := some(rand.New(rand.NewSource(3)), most+10)
	for _, n := range []int{most - 1, most, most + 1, 1 << 20, math.MaxInt} {
		count := min(n, most)
		s := draw.New(b)
		if c := s.Bytes(n); !bytes.Equal(c, b[:count]) {
			t.Errorf("%d: %d bytes", n, len(c))
		}
		hasLeft(t, "bytes", s, len(b)-count)
		s = draw.New(b)
		if x := s.Text(n); len(x) != count || x[count-1] != 'a'+b[count-1]%26 {
			t.Errorf("%d: %d letters", n, len(x))
		}
		hasLeft(t, "letters", s, len(b)-count)
		s = draw.New(b)
		if l := s.Nums(n, 100); len(l) != count || l[count-1] != int(b[count-1]%100) {
			t.Errorf("%d: %d numbers", n, len(l))
		}
		hasLeft(t, "numbers", s, len(b)-count)
		if l := s.Nums(n, 1); len(l) != count {
			t.Errorf("%d: %d noughts", n, len(l))
		}
	}
}

// P6.2

func TestCloneIsDrawnFromOnItsOwn(t *testing.T) {
	s := draw.New([]byte{1, 2, 3, 4, 5})
	s.Byte()
	c := s.Clone()
	if c == s {
		t.Fatal("it is the very same")
	}
	hasLeft(t, "a clone", c, 4)
	if b := c.Bytes(3); !bytes.Equal(b, []byte{2, 3, 4}) {
		t.Errorf("the clone's: %v", b)
	}
	hasLeft(t, "what was cloned", s, 4)
	if b := s.Bytes(4); !bytes.Equal(b, []byte{2, 3, 4, 5}) {
		t.Errorf("what was cloned: %v", b)
	}
	hasLeft(t, "the clone", c, 1)
	if x := c.Byte(); x != 5 {
		t.Errorf("the clone's last one: %d", x)
	}
}

func TestCloneOfNoBytes(t *testing.T) {
	for what, s := range none() {
		c := s.Clone()
		if (c == nil) != (s == nil) {
			t.Errorf("%s: nil %v", what, c == nil)
		}
		hasLeft(t, what, c, 0)
		if x := c.Byte(); x != 0 {
			t.Errorf("%s: %d", what, x)
		}
	}
}

func TestPick(t *testing.T) {
	s := draw.New([]byte{4, 2, 0, 9})
	for _, want := range []string{"b", "c", "a", "a"} {
		if x := draw.Pick(s, "a", "b", "c"); x != want {
			t.Errorf("%q, not %q", x, want)
		}
	}
	hasLeft(t, "at the end", s, 0)
	if x := draw.Pick(s, "a", "b"); x != "a" {
		t.Errorf("behind the end: %q", x)
	}
}

func TestPickOfOneOrNone(t *testing.T) {
	s := draw.New([]byte{255})
	if x := draw.Pick(s, 7); x != 7 {
		t.Errorf("of one: %d", x)
	}
	if x := draw.Pick[int](s); x != 0 {
		t.Errorf("of none: %d", x)
	}
	if x := draw.Pick(s, []string{}...); x != "" {
		t.Errorf("of an empty list: %q", x)
	}
	if x := draw.Pick[*int](s); x != nil {
		t.Errorf("of no pointer: %v", x)
	}
	hasLeft(t, "of one or none", s, 1)
}

func TestPickOfMany(t *testing.T) {
	l := make([]int, 300)
	for i := range l {
		l[i] = 1000 + i
	}
	s := draw.New([]byte{1, 0, 1, 44, 0, 7})
	for _, want := range []int{1256, 1000, 1007} {
		if x := draw.Pick(s, l...); x != want {
			t.Errorf("%d, not %d", x, want)
		}
	}
	for i := range l {
		if l[i] != 1000+i {
			t.Fatalf("what was handed in has %d", l[i])
		}
	}
}

func TestPickHandsOutWhatItWasHanded(t *testing.T) {
	a, b := new(int), new(int)
	if x := draw.Pick(draw.New([]byte{1}), a, b); x != b {
		t.Error("another one")
	}
	if x := draw.Pick(draw.New([]byte{1}), any(1), any("b"), nil); x != "b" {
		t.Errorf("%v", x)
	}
}

func TestASourceWithoutBytes(t *testing.T) {
	for what, s := range none() {
		hasLeft(t, what, s, 0)
		if s.Byte() != 0 || s.Num(5) != 0 || s.Num(math.MaxInt) != 0 || s.Num(-1) != 0 {
			t.Errorf("%s: a number", what)
		}
		if b := s.Bytes(3); !bytes.Equal(b, []byte{0, 0, 0}) {
			t.Errorf("%s: bytes %v", what, b)
		}
		if x := s.Text(3); x != "aaa" {
			t.Errorf("%s: a text %q", what, x)
		}
		if l := s.Nums(3, 5); !slices.Equal(l, []int{0, 0, 0}) {
			t.Errorf("%s: numbers %v", what, l)
		}
		if len(s.Bytes(0)) != 0 || s.Text(-1) != "" || len(s.Nums(0, 5)) != 0 {
			t.Errorf("%s: fewer than one", what)
		}
		if x := draw.Pick(s, "a", "b"); x != "a" {
			t.Errorf("%s: picked %q", what, x)
		}
		if x := draw.Pick[string](s); x != "" {
			t.Errorf("%s: picked %q of none", what, x)
		}
		if x := s.Text(most + 1); x != strings.Repeat("a", most) {
			t.Errorf("%s: %d letters", what, len(x))
		}
		hasLeft(t, what, s, 0)
	}
}

// P6.3

// isDrawn tells the bytes by which k is drawn below n: k itself, the highest byte first.
func isDrawn(t *testing.T, k, n int) {
	t.Helper()
	b := big.NewInt(int64(k)).FillBytes(make([]byte, width(n)))
	s := draw.New(append(b, 77))
	if x := s.Num(n); x != k {
		t.Fatalf("below %d: %d, not %d", n, x, k)
	}
	hasLeft(t, "behind a number", s, 1)
}

func TestEachNumberIsDrawn(t *testing.T) {
	for _, n := range []int{2, 3, 5, 26, 100, 255, 256, 257, 300, 1000, 65535, 65536, 65537, 70000} {
		for k := range n {
			isDrawn(t, k, n)
		}
	}
	g := rand.New(rand.NewSource(4))
	for _, n := range []int{1<<24 - 1, 1 << 24, 1<<24 + 1, 1<<32 + 1, 1<<56 + 1, 1 << 62, math.MaxInt - 1, math.MaxInt} {
		isDrawn(t, 0, n)
		isDrawn(t, n-1, n)
		for range 200 {
			isDrawn(t, g.Intn(n), n)
		}
	}
}

func TestEachLetterAndEachOneOfAListIsDrawn(t *testing.T) {
	letters := strings.Split("abcdefghijklmnopqrstuvwxyz", "")
	for k, want := range letters {
		if x := draw.New([]byte{byte(k)}).Text(1); x != want {
			t.Errorf("%d: %q", k, x)
		}
		if x := draw.Pick(draw.New([]byte{byte(k)}), letters...); x != want {
			t.Errorf("%d: picked %q", k, x)
		}
	}
}
