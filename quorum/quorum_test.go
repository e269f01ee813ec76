package quorum_test

import (
	"math"
	"math/rand"
	"slices"
	"strconv"
	"strings"
	"testing"

	"keelson/quorum"
)

var all uint64 = math.MaxUint64 // the 64 nodes

// beyond is what is no node of a set.
func beyond() []int {
	return []int{math.MinInt, math.MinInt + 1, -1 << 32, -65, -64, -63, -2, -1, 64, 65, 127, 128, 256, 1 << 32, 1<<32 + 1, math.MaxInt - 1, math.MaxInt}
}

// sets are some of each kind: no node, one, all, and some by chance.
func sets() []uint64 {
	l := []uint64{0, 1, 2, 3, 7, 1 << 31, 1 << 32, 1 << 62, 1 << 63, 1<<63 | 1, all, all - 1, all >> 1, all << 32, all >> 32, 0xaaaaaaaaaaaaaaaa, 0x5555555555555555}
	r := rand.New(rand.NewSource(20))
	for range 300 {
		l = append(l, r.Uint64()&r.Uint64(), r.Uint64(), r.Uint64()>>r.Intn(64))
	}
	for k := range 64 {
		l = append(l, 1<<k, all&^(1<<k))
	}
	return l
}

// nodes tells a set's nodes, rising, by its digits.
func nodes(set uint64) []int {
	var l []int
	digits := strconv.FormatUint(set, 2)
	for k := range digits {
		if digits[len(digits)-1-k] == '1' {
			l = append(l, k)
		}
	}
	return l
}

// set tells the set of these nodes, which are all nodes, each of them once.
func set(l ...int) uint64 {
	n := uint64(0)
	for _, k := range l {
		n += uint64(math.Pow(2, float64(k)))
	}
	return n
}

// P20.1

func TestSizeHasMembers(t *testing.T) {
	for _, s := range sets() {
		want := nodes(s)
		if got := quorum.Size(s); got != len(want) {
			t.Errorf("Size(%x): %d, not %d", s, got, len(want))
		}
		if got := quorum.Members(s); !slices.Equal(got, want) {
			t.Errorf("Members(%x): %v, not %v", s, got, want)
		}
		for k := range 64 {
			if quorum.Has(s, k) != slices.Contains(want, k) {
				t.Errorf("Has(%x, %d)", s, k)
			}
		}
		for _, k := range beyond() {
			if quorum.Has(s, k) {
				t.Errorf("Has(%x, %d)", s, k)
			}
		}
	}
}

func TestSizeOfSome(t *testing.T) {
	for s, want := range map[uint64]int{0: 0, 1: 1, 1 << 63: 1, 1<<63 | 1: 2, 5: 2, all: 64, all >> 1: 63} {
		if got := quorum.Size(s); got != want {
			t.Errorf("Size(%x): %d", s, got)
		}
	}
}

func TestMembersAreNobodys(t *testing.T) {
	l := quorum.Members(7)
	l[0] = 9
	if got := quorum.Members(7); !slices.Equal(got, []int{0, 1, 2}) {
		t.Errorf("%v", got)
	}
}

func TestWith(t *testing.T) {
	for _, s := range sets() {
		if got := quorum.With(s); got != s {
			t.Errorf("With(%x): %x", s, got)
		}
		if got := quorum.With(s, beyond()...); got != s {
			t.Errorf("With(%x, none): %x", s, got)
		}
		if got := quorum.With(s, quorum.Members(s)...); got != s {
			t.Errorf("With(%x, its own): %x", s, got)
		}
		for k := range 64 {
			want := nodes(s)
			if !slices.Contains(want, k) {
				want = append(want, k)
			}
			for _, l := range [][]int{{k}, {k, k}, {-1, k, 64}, {k - 64, k, k + 64}} {
				if got := quorum.With(s, l...); got != set(want...) {
					t.Errorf("With(%x, %v): %x", s, l, got)
				}
			}
		}
	}
}

func TestWithSome(t *testing.T) {
	rows := []struct {
		set   uint64
		nodes []int
		want  uint64
	}{
		{0, []int{0}, 1},
		{0, []int{63}, 1 << 63},
		{0, []int{63, 0}, 1<<63 | 1},
		{1, []int{0}, 1},
		{1, []int{2, 1, 2}, 7},
		{1, []int{64, -1}, 1},
		{8, []int{64, 1, -1, 0, 65}, 11},
		{all, []int{0, 63, 5}, all},
	}
	for _, r := range rows {
		if got := quorum.With(r.set, r.nodes...); got != r.want {
			t.Errorf("With(%x, %v): %x, not %x", r.set, r.nodes, got, r.want)
		}
	}
	l := make([]int, 64)
	for k := range l {
		l[k] = 63 - k
	}
	kept := slices.Clone(l)
	if got := quorum.With(0, l...); got != all {
		t.Errorf("%x", got)
	}
	if !slices.Equal(l, kept) {
		t.Error("what was handed in is changed")
	}
	if got := quorum.With(0, l[:1:3]...); got != 1<<63 {
		t.Errorf("what lies behind a list was read: %x", got)
	}
}

// P20.2

func TestMajorityOfFew(t *testing.T) {
	for of := range 1 << 7 {
		for s := range 1 << 7 {
			in, out := 0, 0
			for _, k := range nodes(uint64(of)) {
				if slices.Contains(nodes(uint64(s)), k) {
					in++
				} else {
					out++
				}
			}
			if got := quorum.Majority(uint64(s), uint64(of)); got != (in > out) {
				t.Fatalf("Majority(%b, %b): %v", s, of, got)
			}
		}
	}
}

func TestMajorityOfSome(t *testing.T) {
	rows := []struct {
		set, of uint64
		want    bool
	}{
		{0, 0, false},
		{all, 0, false},
		{0, 1, false},
		{1, 1, true},
		{1 << 63, 1 << 63, true},
		{1, 3, false},
		{3, 3, true},
		{1, 7, false},
		{5, 7, true},
		{3, 15, false},
		{11, 15, true},
		{3, 31, false},
		{19, 31, true},
		{all << 1, 1, false},
		{all << 5, 31, false},
		{all << 2, 31, true},
		{1<<63 | 1, 1<<63 | 1<<62 | 1, true},
		{all, all, true},
		{all >> 32, all, false},
		{all << 32, all, false},
		{all >> 31, all, true},
		{0xaaaaaaaaaaaaaaaa, all, false},
		{0xaaaaaaaaaaaaaaab, all, true},
	}
	for _, r := range rows {
		if got := quorum.Majority(r.set, r.of); got != r.want {
			t.Errorf("Majority(%x, %x): %v", r.set, r.of, got)
		}
	}
}

// most tells whether at is not below x for more than half of the nodes of of.
func most(of uint64, at func(int) uint64, x uint64) bool {
	have, lack := 0, 0
	for _, k := range nodes(of) {
		if at(k) >= x {
			have++
		} else {
			lack++
		}
	}
	return have > lack
}

func table(l ...uint64) func(int) uint64 {
	return func(k int) uint64 { return l[k] }
}

func TestLeastIsTheGreatest(t *testing.T) {
	r := rand.New(rand.NewSource(21))
	for _, of := range sets() {
		for range 3 {
			l := make([]uint64, 64)
			wide := r.Intn(64)
			for k := range l {
				l[k] = r.Uint64() >> wide
			}
			at := table(l...)
			x := quorum.Least(of, at)
			if of == 0 {
				if x != 0 {
					t.Errorf("of nobody: %d", x)
				}
				continue
			}
			if !most(of, at, x) {
				t.Errorf("Least(%x): %d is too much", of, x)
			}
			if x < math.MaxUint64 && most(of, at, x+1) {
				t.Errorf("Least(%x): %d is too little", of, x)
			}
		}
	}
}

func TestLeastOfSome(t *testing.T) {
	const top = math.MaxUint64
	rows := []struct {
		of   uint64
		at   []uint64
		want uint64
	}{
		{0, []uint64{7, 7}, 0},
		{1, []uint64{7}, 7},
		{1, []uint64{0}, 0},
		{1, []uint64{top}, top},
		{2, []uint64{9, 4}, 4},
		{3, []uint64{9, 4}, 4},
		{3, []uint64{4, 9}, 4},
		{7, []uint64{5, 3, 9}, 5},
		{7, []uint64{9, 5, 3}, 5},
		{7, []uint64{3, 9, 5}, 5},
		{7, []uint64{0, 0, 9}, 0},
		{7, []uint64{top, 0, top}, top},
		{7, []uint64{top, 0, top - 1}, top - 1},
		{5, []uint64{8, 0, 6}, 6},
		{15, []uint64{1, 2, 3, 4}, 2},
		{15, []uint64{4, 3, 2, 1}, 2},
		{15, []uint64{6, 6, 1, 6}, 6},
		{31, []uint64{1, 5, 2, 4, 3}, 3},
		{31, []uint64{8, 8, 8, 8, 8}, 8},
		{31, []uint64{1 << 63, 1, 1<<63 + 1, 2, 1 << 63}, 1 << 63},
		{63, []uint64{1, 2, 3, 4, 5, 6}, 3},
		{127, []uint64{1, 2, 3, 4, 5, 6, 7}, 4},
	}
	for _, r := range rows {
		if got := quorum.Least(r.of, table(r.at...)); got != r.want {
			t.Errorf("Least(%b, %v): %d, not %d", r.of, r.at, got, r.want)
		}
	}
	own := func(k int) uint64 { return uint64(k) }
	if got := quorum.Least(all, own); got != 31 {
		t.Errorf("of all: %d", got)
	}
	if got := quorum.Least(1<<63, own); got != 63 {
		t.Errorf("of the last one: %d", got)
	}
	if got := quorum.Least(1<<63|1, own); got != 0 {
		t.Errorf("of the first one and the last one: %d", got)
	}
}

// Who is not in of says nothing.
func TestLeastAsksTheNodesAlone(t *testing.T) {
	for _, of := range sets() {
		var asked []int
		quorum.Least(of, func(k int) uint64 {
			asked = append(asked, k)
			return 1
		})
		if !slices.Equal(asked, nodes(of)) {
			t.Errorf("Least(%x) asked %v", of, asked)
		}
	}
}

func TestLeastOfWhoPanics(t *testing.T) {
	for _, of := range []uint64{0, 1, 7, all} {
		if got := quorum.Least(of, nil); got != 0 {
			t.Errorf("Least(%x, nil): %d", of, got)
		}
		if got := quorum.Least(of, func(int) uint64 { panic("a fault") }); got != 0 {
			t.Errorf("Least(%x): %d", of, got)
		}
	}
	some := func(k int) uint64 {
		if k == 1 {
			panic(nil)
		}
		return uint64(5 + k)
	}
	for of, want := range map[uint64]uint64{1: 5, 2: 0, 3: 0, 7: 5, 15: 5, 31: 7} {
		if got := quorum.Least(of, some); got != want {
			t.Errorf("Least(%b): %d, not %d", of, got, want)
		}
	}
}

func counts[T comparable](t *testing.T, l []T, x T, want int) {
	t.Helper()
	if got := quorum.Count(l, x); got != want {
		t.Errorf("Count(%v, %v): %d, not %d", l, x, got, want)
	}
}

func TestCount(t *testing.T) {
	counts(t, nil, 0, 0)
	counts(t, []int{}, 0, 0)
	counts(t, []int{0}, 0, 1)
	counts(t, []int{1}, 0, 0)
	counts(t, []int{2, 1, 2, 2, 3}, 2, 3)
	counts(t, []int{2, 1, 2, 2, 3}, 3, 1)
	counts(t, []int{2, 1, 2, 2, 3}, 4, 0)
	counts(t, []int{math.MinInt, math.MaxInt, math.MinInt}, math.MinInt, 2)
	counts(t, []uint64{all, 1, all}, all, 2)
	counts(t, []string{"a", "", "b", "a", "aa", "A"}, "a", 2)
	counts(t, []string{"a", "", "b"}, "", 1)
	counts(t, []bool{true, false, true}, true, 2)
	type pair struct{ a, b int }
	counts(t, []pair{{1, 2}, {2, 1}, {1, 2}}, pair{1, 2}, 2)
	counts(t, [][2]string{{"a", "b"}, {"b", "a"}}, [2]string{"b", "a"}, 1)
	one, other := new(int), new(int)
	counts(t, []*int{one, other, nil, one}, one, 2)
	counts(t, []*int{one, other, nil, one}, nil, 1)
	long := slices.Repeat([]byte{7, 8, 7}, 5000)
	counts(t, long, 7, 10000)
	counts(t, long, 9, 0)
}

func TestCountOfFloats(t *testing.T) {
	less := math.Copysign(0, -1)
	counts(t, []float64{0, less, 1}, 0, 2)
	counts(t, []float64{0, less, 1}, less, 2)
	counts(t, []float64{math.NaN(), 1}, math.NaN(), 0)
	counts(t, []float64{math.Inf(1), math.Inf(-1)}, math.Inf(1), 1)
}

func TestCountOfInterfaces(t *testing.T) {
	l := []any{1, int64(1), "1", nil, []int{1}, map[int]int{}, 1, func() {}, struct{ x any }{[]int{}}, nil}
	counts[any](t, l, 1, 2)
	counts[any](t, l, int64(1), 1)
	counts[any](t, l, nil, 2)
	counts[any](t, l, "1", 1)
	for _, x := range []any{[]int{1}, map[int]int{}, func() {}, struct{ x any }{[]int{}}, struct{ x any }{1}} {
		if got := quorum.Count(l, x); got != 0 {
			t.Errorf("%d of what can't be compared", got)
		}
	}
	type boxed struct{ x any }
	boxes := []boxed{{1}, {[]int{}}, {1}, {nil}, {[]int{}}}
	for want, x := range map[int]any{2: 1, 1: nil, 0: []int{}} {
		if got := quorum.Count(boxes, boxed{x}); got != want {
			t.Errorf("%d of a box, not %d", got, want)
		}
	}
}

func TestCountReadsTheListAlone(t *testing.T) {
	l := []string{"x", "y", "x", "x"}
	counts(t, l[:2], "x", 1)
	counts(t, l[1:3:3], "x", 1)
	if got := strings.Join(l, ""); got != "xyxx" {
		t.Errorf("what was handed in is changed: %s", got)
	}
}

// P20.3

// majorities are those of a set, of all that 6 nodes may make.
func majorities(of uint64) []uint64 {
	var l []uint64
	for s := range uint64(1 << 6) {
		if quorum.Majority(s, of) {
			l = append(l, s)
		}
	}
	return l
}

// meet tells whether each of a has a node of of in common with each of b.
func meet(t *testing.T, a, b []uint64, of uint64) {
	t.Helper()
	for _, x := range a {
		for _, y := range b {
			if len(nodes(x&y&of)) == 0 {
				t.Fatalf("%b and %b have nothing in common of %b", x, y, of)
			}
		}
	}
}

func TestMajoritiesMeet(t *testing.T) {
	for of := range uint64(1 << 6) {
		m := majorities(of)
		if of == 0 {
			if len(m) > 0 {
				t.Errorf("nobody has a majority: %b", m)
			}
			continue
		}
		if !slices.Contains(m, of) {
			t.Errorf("all of %b are no majority", of)
		}
		meet(t, m, m, of)
		for k := range 6 {
			if more := quorum.With(of, k); more != of {
				meet(t, m, majorities(more), of)
			}
		}
	}
}

func TestGreatMajoritiesMeet(t *testing.T) {
	r := rand.New(rand.NewSource(22))
	met := 0
	for range 20000 {
		of := r.Uint64() | r.Uint64()
		more := quorum.With(of, r.Intn(64))
		a, b := r.Uint64(), r.Uint64()
		if r.Intn(2) == 0 {
			b = ^a // as little in common as can be
		}
		for _, x := range []uint64{of, more} {
			if quorum.Majority(a, of) && quorum.Majority(b, x) {
				met++
				if len(nodes(a&b&of)) == 0 {
					t.Fatalf("%x and %x have nothing in common of %x and %x", a, b, of, x)
				}
			}
		}
	}
	if met < 1000 {
		t.Errorf("only %d had majorities", met)
	}
}
