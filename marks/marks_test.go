package marks_test

import (
	"math"
	"math/rand"
	"slices"
	"testing"

	"keelson/api"
	"keelson/marks"
)

const limit = api.MaxIndex - api.MaxMarks // the greatest number that may be marked

func of(low, bits uint64) api.Marks {
	return api.Marks{Low: low, Bits: bits}
}

// set is what is marked above base: the tests' own tale of it, up to base all being marked.
type set struct {
	base uint64
	more map[uint64]bool
}

func setOf(m api.Marks, base uint64) set {
	s := set{base: base, more: map[uint64]bool{}}
	for n := base + 1; n <= m.Low; n++ {
		s.more[n] = true
	}
	for k := range uint64(64) {
		if n := m.Low + 1 + k; m.Bits>>k&1 == 1 && n > base {
			s.more[n] = true
		}
	}
	return s
}

func (s set) has(n uint64) bool {
	return n <= s.base || s.more[n]
}

// marks tells the only good Marks of a set.
func (s set) marks() api.Marks {
	m := of(s.base, 0)
	for s.more[m.Low+1] {
		m.Low++
	}
	for k := range uint64(64) {
		if s.more[m.Low+1+k] {
			m.Bits |= 1 << k
		}
	}
	return m
}

// lows is Lows of all kinds that good Marks may have.
func lows() []uint64 {
	return []uint64{0, 1, 3, 63, 64, 65, 1 << 32, 1<<61 + 5, limit - 130, limit - 65, limit - 64, limit - 63, limit - 2, limit - 1, limit}
}

// someMarks tells good ones whose Low is near base.
func someMarks(g *rand.Rand, base uint64) api.Marks {
	s := set{base: base + uint64(g.Intn(4)), more: map[uint64]bool{}}
	s.base = min(s.base, limit)
	for range g.Intn(12) {
		n := s.base + 1 + uint64(g.Intn(1+g.Intn(64)))
		if n <= limit {
			s.more[n] = true
		}
	}
	if g.Intn(4) == 0 {
		n := min(s.base+64, limit)
		for ; n > s.base+2; n-- {
			s.more[n] = true
		}
	}
	return s.marks()
}

// bad is Marks that are not good.
func bad() []api.Marks {
	return []api.Marks{
		of(0, 1), of(0, 3), of(5, 1), of(5, math.MaxUint64), of(0, math.MaxUint64),
		of(limit, 1), of(limit, 2), of(limit, 1<<63), of(limit-1, 1), of(limit-1, 2),
		of(limit-2, 4), of(limit-63, 1<<63), of(limit+1, 0), of(limit+1, 2),
		of(api.MaxIndex, 0), of(api.MaxIndex+1, 0), of(math.MaxUint64, 0), of(math.MaxUint64, 1),
		of(math.MaxUint64, 2), of(math.MaxUint64, math.MaxUint64), of(math.MaxUint64-64, 1<<63), of(math.MaxUint64-1, 2),
	}
}

// P4.1

func TestGood(t *testing.T) {
	for _, m := range []api.Marks{
		of(0, 0), of(0, 2), of(0, 1<<63), of(0, math.MaxUint64-1), of(7, 0), of(3, 2),
		of(limit, 0), of(limit-1, 0), of(limit-2, 2), of(limit-64, 1<<63), of(limit-64, math.MaxUint64-1), of(limit-63, 1<<62),
	} {
		if !marks.Good(m) {
			t.Errorf("%+v is not good", m)
		}
	}
	for _, m := range bad() {
		if marks.Good(m) {
			t.Errorf("%+v is good", m)
		}
	}
}

func TestHas(t *testing.T) {
	m := of(3, 2|1<<63) // 1, 2, 3; 5; 67
	for n := range uint64(140) {
		if want := n <= 3 || n == 5 || n == 67; marks.Has(m, n) != want {
			t.Errorf("%d: %v", n, !want)
		}
	}
	for _, n := range []uint64{1 << 32, 1<<32 + 5, 1<<63 + 5, api.MaxIndex, math.MaxUint64} {
		if marks.Has(m, n) {
			t.Errorf("%d is marked", n)
		}
	}
}

func TestHasOfNothing(t *testing.T) {
	if !marks.Has(of(0, 0), 0) {
		t.Error("0 is not marked")
	}
	for _, n := range []uint64{1, 2, 64, 65, math.MaxUint64} {
		if marks.Has(of(0, 0), n) {
			t.Errorf("%d is marked", n)
		}
	}
}

func TestHasAtLowAndMaxMarks(t *testing.T) {
	for _, low := range lows() {
		m := of(low, math.MaxUint64-1)
		for n, want := range map[uint64]bool{0: true, low: true, low + 1: false, low + 2: true, low + 64: true, low + 65: false, low + 66: false, low + 128: false} {
			if n == 0 || n >= low {
				if marks.Has(m, n) != want {
					t.Errorf("%+v: %d: %v", m, n, !want)
				}
			}
		}
	}
}

func TestHasOfBadMarks(t *testing.T) {
	for _, c := range []struct {
		m    api.Marks
		n    uint64
		want bool
	}{
		{of(0, 1), 1, true},
		{of(5, math.MaxUint64), 6, true},
		{of(5, math.MaxUint64), 69, true},
		{of(5, math.MaxUint64), 70, false},
		{of(limit, 1), limit, true},
		{of(limit, 1), limit + 1, true},
		{of(limit, 2), limit + 1, false},
		{of(api.MaxIndex, 2), api.MaxIndex + 2, true},
		{of(math.MaxUint64, 0), math.MaxUint64, true},
		{of(math.MaxUint64, 0), 0, true},
		{of(math.MaxUint64-1, 1), math.MaxUint64, true},
		{of(math.MaxUint64-1, 2), math.MaxUint64, false},
		{of(math.MaxUint64-64, 1<<63), math.MaxUint64, true},
		{of(math.MaxUint64-64, 1<<62), math.MaxUint64, false},
		{of(math.MaxUint64-65, math.MaxUint64), math.MaxUint64, false},
	} {
		if marks.Has(c.m, c.n) != c.want {
			t.Errorf("%+v: %d: %v", c.m, c.n, !c.want)
		}
	}
}

// P4.2

func TestSet(t *testing.T) {
	m, e := marks.Set(of(3, 0), 5)
	if m != of(3, 2) || e != api.OK {
		t.Errorf("5 above 3: %+v, %d", m, int(e))
	}
	m, e = marks.Set(m, 4)
	if m != of(5, 0) || e != api.OK {
		t.Errorf("then 4: %+v, %d", m, int(e))
	}
	for _, n := range []uint64{0, 1, 4, 5} {
		if x, e := marks.Set(m, n); x != m || e != api.OK {
			t.Errorf("%d, which is marked: %+v, %d", n, x, int(e))
		}
	}
	if x, e := marks.Set(of(3, 2), 5); x != of(3, 2) || e != api.OK {
		t.Errorf("5 again: %+v, %d", x, int(e))
	}
	if x, e := marks.Set(of(3, 2|1<<63), 4); x != of(5, 1<<61) || e != api.OK {
		t.Errorf("what stands above moves: %+v, %d", x, int(e))
	}
}

func TestSetThatFillsAllHoles(t *testing.T) {
	m, e := marks.Set(of(9, math.MaxUint64-1), 10)
	if m != of(73, 0) || e != api.OK {
		t.Errorf("%+v, %d", m, int(e))
	}
	m, e = marks.Set(of(limit-64, math.MaxUint64-1), limit-63)
	if m != of(limit, 0) || e != api.OK {
		t.Errorf("up to the limit: %+v, %d", m, int(e))
	}
}

func TestSetAtItsRange(t *testing.T) {
	for _, low := range lows() {
		for _, bits := range []uint64{0, 2, 1 << 40} {
			m := of(low, bits)
			if !marks.Good(m) {
				continue
			}
			for _, n := range []uint64{0, low, low + 1, low + 2, low + 63, low + 64, low + 65, low + 66, low + 128, limit - 1, limit, limit + 1, api.MaxIndex, api.MaxIndex + 1, 1 << 63, math.MaxUint64} {
				want, code := m, api.OK
				if n > limit || n > low && n-low > 64 {
					code = api.ErrRange
				} else if n > low {
					s := setOf(m, low)
					s.more[n] = true
					want = s.marks()
				}
				if x, e := marks.Set(m, n); x != want || e != code {
					t.Errorf("%d in %+v: %+v, %d", n, m, x, int(e))
				}
			}
		}
	}
}

func TestOver(t *testing.T) {
	m := of(3, 2|8|16) // 5; 7, 8
	for _, c := range []struct {
		low  uint64
		want api.Marks
	}{
		{0, m}, {2, m}, {3, m},
		{4, of(5, 2|4)},
		{5, of(5, 2|4)},
		{6, of(8, 0)},
		{7, of(8, 0)},
		{8, of(8, 0)},
		{9, of(9, 0)},
		{66, of(66, 0)},
		{67, of(67, 0)},
		{68, of(68, 0)},
		{1 << 40, of(1<<40, 0)},
		{limit - 1, of(limit-1, 0)},
		{limit, of(limit, 0)},
		{limit + 1, m}, {api.MaxIndex, m}, {1 << 63, m}, {math.MaxUint64, m},
	} {
		if x := marks.Over(m, c.low); x != c.want {
			t.Errorf("over %d: %+v, not %+v", c.low, x, c.want)
		}
	}
	top := of(10, 1<<63) // 74
	if marks.Over(top, 72) != of(72, 2) || marks.Over(top, 73) != of(74, 0) || marks.Over(top, 74) != of(74, 0) || marks.Over(top, 75) != of(75, 0) {
		t.Error("about the greatest one")
	}
}

func TestJoin(t *testing.T) {
	for _, c := range []struct{ a, b, want api.Marks }{
		{of(0, 0), of(0, 0), of(0, 0)},
		{of(3, 2), of(3, 4), of(3, 6)},
		{of(3, 2), of(4, 0), of(5, 0)},
		{of(3, 2), of(0, 2), of(3, 2)},
		{of(3, 2), of(0, 8), of(5, 0)}, // 4
		{of(0, 1<<63), of(0, 0), of(0, 1<<63)},
		{of(0, 1<<63), of(63, 0), of(64, 0)},
		{of(0, 1<<63), of(62, 0), of(62, 2)},
		{of(0, 1<<63), of(64, 2), of(64, 2)},
		{of(0, 1<<63), of(1000, 2), of(1000, 2)},
		{of(5, 2), of(5, 0), of(5, 2)},
		{of(0, 0x5555555555555554), of(1, 0x5555555555555554), of(1, 1<<63-2)},
		{of(limit, 0), of(limit-64, 1<<63), of(limit, 0)},
		{of(limit-1, 0), of(limit-64, 1<<63), of(limit, 0)},
		{of(limit-2, 0), of(limit-64, 1<<63), of(limit-2, 2)},
	} {
		if x := marks.Join(c.a, c.b); x != c.want {
			t.Errorf("%+v and %+v: %+v, not %+v", c.a, c.b, x, c.want)
		}
		if x := marks.Join(c.b, c.a); x != c.want {
			t.Errorf("%+v and %+v: %+v, not %+v", c.b, c.a, x, c.want)
		}
	}
}

func TestJoinIsWhatEitherMarks(t *testing.T) {
	g := rand.New(rand.NewSource(1))
	for range 20000 {
		base := lows()[g.Intn(len(lows()))]
		a, b := someMarks(g, base), someMarks(g, min(base+uint64(g.Intn(80)), limit))
		s := setOf(a, base)
		for n := range setOf(b, base).more {
			s.more[n] = true
		}
		x := marks.Join(a, b)
		if x != s.marks() || !marks.Good(x) {
			t.Fatalf("%+v and %+v: %+v, not %+v", a, b, x, s.marks())
		}
	}
}

func TestOverIsAllUpToIt(t *testing.T) {
	g := rand.New(rand.NewSource(2))
	for range 20000 {
		base := lows()[g.Intn(len(lows()))]
		m := someMarks(g, base)
		low := min(base+uint64(g.Intn(140)), limit)
		s := setOf(m, base)
		for n := base + 1; n <= low; n++ {
			s.more[n] = true
		}
		x := marks.Over(m, low)
		if x != s.marks() || !marks.Good(x) {
			t.Fatalf("%+v over %d: %+v, not %+v", m, low, x, s.marks())
		}
	}
}

// P4.3

func TestTop(t *testing.T) {
	for _, c := range []struct {
		m   api.Marks
		top uint64
	}{
		{of(0, 0), 0}, {of(7, 0), 7}, {of(3, 2), 5}, {of(3, 2|1<<63), 67}, {of(3, 6), 6},
		{of(limit, 0), limit}, {of(limit-64, 1<<63), limit}, {of(limit-2, 2), limit},
	} {
		if n := marks.Top(c.m); n != c.top {
			t.Errorf("%+v: %d, not %d", c.m, n, c.top)
		}
	}
}

func TestHolesAndAll(t *testing.T) {
	for _, c := range []struct {
		m          api.Marks
		holes, all []uint64
	}{
		{of(0, 0), nil, nil},
		{of(7, 0), nil, nil},
		{of(limit, 0), nil, nil},
		{of(3, 2), []uint64{4}, []uint64{5}},
		{of(0, 2|4|32), []uint64{1, 4, 5}, []uint64{2, 3, 6}},
		{of(limit-4, 2|8), []uint64{limit - 3, limit - 1}, []uint64{limit - 2, limit}},
	} {
		if l := marks.Holes(c.m); !slices.Equal(l, c.holes) {
			t.Errorf("holes of %+v: %v", c.m, l)
		}
		if l := marks.All(c.m); !slices.Equal(l, c.all) {
			t.Errorf("all of %+v: %v", c.m, l)
		}
	}
	full := marks.All(of(3, math.MaxUint64-1))
	if len(full) != 63 || full[0] != 5 || full[62] != 67 {
		t.Errorf("all of all: %v", full)
	}
	holes := marks.Holes(of(3, 1<<63))
	if len(holes) != 63 || holes[0] != 4 || holes[62] != 66 {
		t.Errorf("holes of one: %v", holes)
	}
}

func TestHolesAndAllPartWhatIsAboveLow(t *testing.T) {
	g := rand.New(rand.NewSource(3))
	for range 5000 {
		m := someMarks(g, lows()[g.Intn(len(lows()))])
		holes, all := marks.Holes(m), marks.All(m)
		for _, n := range holes {
			if marks.Has(m, n) || n <= m.Low || n >= marks.Top(m) {
				t.Fatalf("%d is a hole of %+v", n, m)
			}
		}
		for _, n := range all {
			if !marks.Has(m, n) || n <= m.Low || n > marks.Top(m) {
				t.Fatalf("%d is one of %+v", n, m)
			}
		}
		if !slices.IsSorted(holes) || !slices.IsSorted(all) || uint64(len(holes)+len(all)) != marks.Top(m)-m.Low {
			t.Fatalf("%+v: holes %v, all %v", m, holes, all)
		}
		if len(all) > 0 && all[len(all)-1] != marks.Top(m) {
			t.Fatalf("%+v: top %d, all %v", m, marks.Top(m), all)
		}
	}
}

func TestBits(t *testing.T) {
	for _, low := range lows() {
		var asked []uint64
		b := marks.Bits(low, func(n uint64) bool {
			asked = append(asked, n)
			return n == low+1 || n == low+3 || n == low+64
		})
		if b != 1|4|1<<63 {
			t.Errorf("%d: %x", low, b)
		}
		for _, n := range asked {
			if n <= low || n > low+64 {
				t.Errorf("%d: asked of %d", low, n)
			}
		}
		if b := marks.Bits(low, func(uint64) bool { return true }); b != math.MaxUint64 {
			t.Errorf("%d, all: %x", low, b)
		}
		if b := marks.Bits(low, func(uint64) bool { return false }); b != 0 {
			t.Errorf("%d, none: %x", low, b)
		}
		if b := marks.Bits(low, func(n uint64) bool { return n <= low || n > low+64 }); b != 0 {
			t.Errorf("%d, all others: %x", low, b)
		}
	}
}

func TestBitsAreThoseOfMarks(t *testing.T) {
	g := rand.New(rand.NewSource(4))
	for range 2000 {
		m := someMarks(g, lows()[g.Intn(len(lows()))])
		if b := marks.Bits(m.Low, func(n uint64) bool { return marks.Has(m, n) }); b != m.Bits {
			t.Fatalf("%+v: %x", m, b)
		}
	}
}

func TestBitsOfWrongInputs(t *testing.T) {
	if b := marks.Bits(3, nil); b != 0 {
		t.Errorf("nil: %x", b)
	}
	if b := marks.Bits(3, func(n uint64) bool {
		if n == 5 {
			panic("5")
		}
		return n < 7
	}); b != 1|4 {
		t.Errorf("one that panics of 5: %x", b)
	}
	all := func(n uint64) bool { return true }
	for _, c := range []struct{ low, bits uint64 }{
		{math.MaxUint64, 0}, {math.MaxUint64 - 1, 1}, {math.MaxUint64 - 63, math.MaxUint64 >> 1}, {math.MaxUint64 - 64, math.MaxUint64}, {api.MaxIndex, math.MaxUint64},
	} {
		if b := marks.Bits(c.low, all); b != c.bits {
			t.Errorf("%d: %x", c.low, b)
		}
	}
}

func TestBadMarksDoNoHarm(t *testing.T) {
	for _, m := range bad() {
		for _, n := range []uint64{0, 1, m.Low, m.Low + 1, m.Low + 64, m.Low + 65, limit, limit + 1, math.MaxUint64} {
			marks.Has(m, n)
			marks.Set(m, n)
			marks.Over(m, n)
		}
		marks.Top(m)
		marks.Holes(m)
		marks.All(m)
		for _, x := range append(bad(), of(0, 0), of(limit, 0)) {
			marks.Join(m, x)
		}
	}
}

// P4.4

func TestWhatIsMarkedStays(t *testing.T) {
	g := rand.New(rand.NewSource(5))
	for range 300 {
		base := lows()[g.Intn(len(lows()))]
		m := someMarks(g, base)
		s := setOf(m, base)
		for range 200 {
			n := base + uint64(g.Intn(200))
			x, e := marks.Set(m, n)
			if !marks.Good(x) || e != api.OK && x != m {
				t.Fatalf("%d in %+v: %+v, %d", n, m, x, int(e))
			}
			if e == api.OK && n > base {
				s.more[n] = true
			}
			m = x
			for n := base; n < base+300; n++ {
				if marks.Has(m, n) != s.has(n) {
					t.Fatalf("%d in %+v: %v", n, m, !s.has(n))
				}
			}
		}
	}
}

func TestOrderOfMarkingIsOfNoMatter(t *testing.T) {
	g := rand.New(rand.NewSource(6))
	for range 2000 {
		m := someMarks(g, lows()[g.Intn(len(lows()))])
		l := make([]uint64, g.Intn(30))
		for i := range l {
			l[i] = min(m.Low+uint64(g.Intn(65)), limit)
		}
		var first api.Marks
		for turn := range 4 {
			x := m
			for _, n := range l {
				var e api.Errno
				x, e = marks.Set(x, n)
				if e != api.OK {
					t.Fatalf("%d in %+v: %d", n, x, int(e))
				}
			}
			if turn == 0 {
				first = x
			}
			if x != first {
				t.Fatalf("%v in %+v: %+v, and %+v", l, m, first, x)
			}
			g.Shuffle(len(l), func(i, j int) { l[i], l[j] = l[j], l[i] })
		}
	}
}

func TestJoinAndOverKeepWhatIsMarked(t *testing.T) {
	g := rand.New(rand.NewSource(7))
	for range 5000 {
		base := lows()[g.Intn(len(lows()))]
		a, b := someMarks(g, base), someMarks(g, base)
		x, y := marks.Join(a, b), marks.Over(a, b.Low)
		for _, n := range append(marks.All(a), a.Low, b.Low) {
			if !marks.Has(x, n) || !marks.Has(y, n) {
				t.Fatalf("%d of %+v and %+v is lost: %+v, %+v", n, a, b, x, y)
			}
		}
		if marks.Join(x, a) != x || marks.Join(x, b) != x || marks.Join(a, a) != a {
			t.Fatalf("%+v and %+v, joined again", a, b)
		}
	}
}
