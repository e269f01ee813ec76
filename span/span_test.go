package span_test

import (
	"math"
	"math/rand"
	"slices"
	"testing"

	"keelson/api"
	"keelson/span"
)

const (
	last  = math.MaxUint32 // the last block there is, and the greatest Count
	first = 3              // blocks at either end of all there are that are looked at one by one
)

func of(from, count uint32) api.Span {
	return api.Span{From: from, Count: count}
}

func list(l ...api.Span) []api.Span {
	return l
}

func isList(t *testing.T, what string, got, want []api.Span) {
	t.Helper()
	if !slices.Equal(got, want) {
		t.Errorf("%s: %v, not %v", what, got, want)
	}
}

// has is the document's definition of a block that is had, by whole numbers.
func has(s api.Span, block uint32) bool {
	return int64(s.From) <= int64(block) && int64(block) < int64(s.From)+int64(s.Count)
}

func some(l []api.Span, block uint32) bool {
	return slices.ContainsFunc(l, func(s api.Span) bool { return has(s, block) })
}

// low is all spans of few blocks from the block 0 on.
func low() []api.Span {
	var l []api.Span
	for from := range uint32(6) {
		for count := range uint32(7) {
			l = append(l, of(from, count))
		}
	}
	return l
}

// high is spans about the last block, which end ahead of it, there, or beyond.
func high() []api.Span {
	var l []api.Span
	for from := range uint32(5) {
		for count := range uint32(7) {
			l = append(l, of(last-from, count))
		}
		l = append(l, of(last-from, last-from), of(last-from, last))
	}
	return l
}

// wide is spans that begin about the first block, or in the middle, and end about the last one, or beyond.
func wide() []api.Span {
	var l []api.Span
	for from := range uint32(first + 1) {
		for less := range uint32(first + 1) {
			l = append(l, of(from, last-less), of(1<<31+from-1, 1<<31-less), of(from, 1<<31-less))
		}
		l = append(l, of(from, 0), of(last-from, 2), of(last-from, last))
	}
	return l
}

// watched is blocks enough to tell what the spans above have: all about the borders of low, high and wide.
func watched() []uint32 {
	var l []uint32
	for k := range uint32(16) {
		l = append(l, k, 1<<31-8+k, last-k)
	}
	return l
}

// pairs hands all pairs of each of some lists on.
func pairs(do func(a, b api.Span)) {
	for _, l := range [][]api.Span{low(), high(), wide()} {
		for _, a := range l {
			for _, b := range l {
				do(a, b)
			}
		}
	}
}

// are tells whether l has just the watched blocks that want asks for, in Spans that rise, and do not touch.
func are(l []api.Span, want func(block uint32) bool) bool {
	for _, block := range watched() {
		if some(l, block) != want(block) {
			return false
		}
	}
	for i, s := range l {
		if s.Count == 0 || span.End(s) > 1<<32 {
			return false
		}
		if i > 0 && span.End(l[i-1]) >= uint64(s.From) {
			return false
		}
	}
	return true
}

// P3.1

func TestEnd(t *testing.T) {
	for _, c := range []struct {
		s   api.Span
		end uint64
	}{
		{of(0, 0), 0},
		{of(7, 0), 7},
		{of(2, 4), 6},
		{of(0, last), last},
		{of(last, 0), last},
		{of(last, 1), 1 << 32},
		{of(1, last), 1 << 32},
		{of(last, 2), 1<<32 + 1},
		{of(last, last), 1<<33 - 2},
	} {
		if n := span.End(c.s); n != c.end {
			t.Errorf("%v: %d, not %d", c.s, n, c.end)
		}
	}
}

func TestGood(t *testing.T) {
	for _, c := range []struct {
		s      api.Span
		blocks uint32
		good   bool
	}{
		{of(0, 0), 0, false},
		{of(0, 0), 8, false},
		{of(3, 0), 8, false},
		{of(0, 1), 0, false},
		{of(0, 1), 1, true},
		{of(2, 4), 5, false},
		{of(2, 4), 6, true},
		{of(2, 4), 7, true},
		{of(6, 1), 6, false},
		{of(0, last), last, true},
		{of(0, last), last - 1, false},
		{of(1, last), last, false},
		{of(last-1, 1), last, true},
		{of(last, 1), last, false},
		{of(last, 2), 1, false},
		{of(last, 2), last, false},
		{of(last, last), last, false},
		{of(2, last), 1, false},
	} {
		if good := span.Good(c.s, c.blocks); good != c.good {
			t.Errorf("%v of %d: %v", c.s, c.blocks, good)
		}
	}
}

func TestHas(t *testing.T) {
	for _, l := range [][]api.Span{low(), high(), wide()} {
		for _, s := range l {
			for _, block := range watched() {
				if span.Has(s, block) != has(s, block) {
					t.Errorf("%v, %d: %v", s, block, span.Has(s, block))
				}
			}
		}
	}
}

func TestHasAtTheEnds(t *testing.T) {
	s := of(2, 4)
	for block, want := range []bool{false, false, true, true, true, true, false, false} {
		if span.Has(s, uint32(block)) != want {
			t.Errorf("%d: %v", block, !want)
		}
	}
	if !span.Has(of(last, 1), last) || !span.Has(of(1, last), last) || !span.Has(of(last, last), last) {
		t.Error("the last block is not had")
	}
	if span.Has(of(last, last), 0) || span.Has(of(last, 2), 0) || span.Has(of(0, last), last) || span.Has(of(last, 0), last) {
		t.Error("what lies outside is had")
	}
}

func TestMeet(t *testing.T) {
	for _, c := range []struct {
		what string
		a, b api.Span
		meet bool
	}{
		{"apart", of(0, 2), of(3, 2), false},
		{"touch", of(0, 3), of(3, 2), false},
		{"one block", of(0, 4), of(3, 2), true},
		{"the same", of(3, 2), of(3, 2), true},
		{"within", of(1, 8), of(3, 2), true},
		{"at its beginning", of(3, 8), of(3, 2), true},
		{"none within", of(1, 8), of(3, 0), false},
		{"none twice", of(3, 0), of(3, 0), false},
		{"touch at the last block", of(0, last), of(last, 1), false},
		{"the last block", of(1, last), of(last, 1), true},
		{"beyond the last block", of(last, 2), of(last, 9), true},
		{"beyond, and the first block", of(last, 2), of(0, 1), false},
		{"beyond from two on", of(last-1, last), of(last, last), true},
	} {
		if span.Meet(c.a, c.b) != c.meet || span.Meet(c.b, c.a) != c.meet {
			t.Errorf("%s: %v and %v: %v", c.what, c.a, c.b, span.Meet(c.a, c.b))
		}
	}
}

func TestMeetIsABlockOfBoth(t *testing.T) {
	pairs(func(a, b api.Span) {
		want := slices.ContainsFunc(watched(), func(block uint32) bool { return has(a, block) && has(b, block) })
		if span.Meet(a, b) != want {
			t.Errorf("%v and %v: %v", a, b, span.Meet(a, b))
		}
	})
}

func TestCommon(t *testing.T) {
	for _, c := range []struct {
		what    string
		a, b, s api.Span
	}{
		{"apart", of(0, 2), of(3, 2), of(0, 0)},
		{"touch", of(1, 2), of(3, 2), of(0, 0)},
		{"over the border", of(1, 4), of(3, 5), of(3, 2)},
		{"the same", of(3, 2), of(3, 2), of(3, 2)},
		{"within", of(1, 8), of(3, 2), of(3, 2)},
		{"none within", of(1, 8), of(3, 0), of(0, 0)},
		{"none of the same", of(3, 0), of(3, 0), of(0, 0)},
		{"the last block", of(1, last), of(last, 1), of(last, 1)},
		{"beyond the last block", of(last, 5), of(last, 9), of(last, 1)},
		{"beyond from two on", of(last-1, last), of(last-2, last), of(last-1, 2)},
		{"nearly all", of(0, last), of(0, last), of(0, last)},
		{"all but the first", of(1, last), of(1, last), of(1, last)},
		{"all but two", of(2, last), of(2, last), of(2, last-1)},
		{"touch at the last block", of(0, last), of(last, 1), of(0, 0)},
	} {
		if s := span.Common(c.a, c.b); s != c.s {
			t.Errorf("%s: %v and %v: %v, not %v", c.what, c.a, c.b, s, c.s)
		}
	}
}

func TestCommonIsWhatBothHave(t *testing.T) {
	pairs(func(a, b api.Span) {
		s := span.Common(a, b)
		if s.Count == 0 {
			if s != of(0, 0) || slices.ContainsFunc(watched(), func(block uint32) bool { return has(a, block) && has(b, block) }) {
				t.Errorf("%v and %v: %v", a, b, s)
			}
			return
		}
		if !are(list(s), func(block uint32) bool { return has(a, block) && has(b, block) }) {
			t.Errorf("%v and %v: %v", a, b, s)
		}
	})
}

// P3.2

func TestWithout(t *testing.T) {
	for _, c := range []struct {
		what string
		a, b api.Span
		l    []api.Span
	}{
		{"one within", of(2, 4), of(3, 1), list(of(2, 1), of(4, 2))},
		{"the beginning", of(2, 4), of(2, 1), list(of(3, 3))},
		{"the end", of(2, 4), of(5, 1), list(of(2, 3))},
		{"over the beginning", of(2, 4), of(0, 4), list(of(4, 2))},
		{"over the end", of(2, 4), of(4, 9), list(of(2, 2))},
		{"the same", of(2, 4), of(2, 4), nil},
		{"within the other one", of(2, 4), of(0, 9), nil},
		{"touch ahead", of(2, 4), of(0, 2), list(of(2, 4))},
		{"touch behind", of(2, 4), of(6, 2), list(of(2, 4))},
		{"apart", of(2, 4), of(9, 2), list(of(2, 4))},
		{"none within", of(2, 4), of(3, 0), list(of(2, 4))},
		{"none of the one", of(2, 0), of(1, 4), nil},
		{"none of both", of(2, 0), of(2, 0), nil},
		{"beyond the last block", of(last-2, 9), of(last-1, 1), list(of(last-2, 1), of(last, 1))},
		{"beyond, whole", of(last-2, 9), of(0, 1), list(of(last-2, 3))},
		{"beyond, both", of(last-2, 9), of(last-1, 4), list(of(last-2, 1))},
		{"the last block", of(1, last), of(last, 1), list(of(1, last-1))},
		{"all but the last one", of(1, last), of(0, last), list(of(last, 1))},
		{"none beyond", of(last-1, 9), of(last-3, 4), nil},
	} {
		isList(t, c.what, span.Without(c.a, c.b), c.l)
	}
}

func TestWithoutIsWhatTheOtherOneHasNot(t *testing.T) {
	pairs(func(a, b api.Span) {
		l := span.Without(a, b)
		if len(l) > 2 || !are(l, func(block uint32) bool { return has(a, block) && !has(b, block) }) {
			t.Errorf("%v without %v: %v", a, b, l)
		}
	})
}

// P3.3

func TestJoin(t *testing.T) {
	for _, c := range []struct {
		what string
		l    []api.Span
		want []api.Span
	}{
		{"nothing", nil, nil},
		{"no element", []api.Span{}, nil},
		{"no block", list(of(0, 0), of(5, 0), of(last, 0)), nil},
		{"one", list(of(2, 4)), list(of(2, 4))},
		{"one from 0 on", list(of(0, 4)), list(of(0, 4))},
		{"apart, falling", list(of(7, 1), of(2, 4)), list(of(2, 4), of(7, 1))},
		{"touch", list(of(6, 1), of(2, 4)), list(of(2, 5))},
		{"the same", list(of(2, 4), of(2, 4), of(2, 4)), list(of(2, 4))},
		{"of the same beginning", list(of(2, 4), of(2, 6), of(2, 1)), list(of(2, 6))},
		{"within", list(of(3, 1), of(2, 6), of(5, 2)), list(of(2, 6))},
		{"within, and behind", list(of(2, 6), of(3, 1), of(8, 2)), list(of(2, 8))},
		{"none between", list(of(2, 2), of(4, 0), of(5, 2), of(9, 0)), list(of(2, 2), of(5, 2))},
		{"none within", list(of(2, 4), of(3, 0), of(4, 2)), list(of(2, 4))},
		{"none, and behind", list(of(3, 0), of(3, 2)), list(of(3, 2))},
		{"a chain", list(of(4, 2), of(0, 2), of(6, 2), of(2, 2)), list(of(0, 8))},
		{"the last block", list(of(last, 1), of(0, 1)), list(of(0, 1), of(last, 1))},
		{"beyond the last block", list(of(last, 9), of(last-1, last)), list(of(last-1, 2))},
		{"all but the first", list(of(1, last)), list(of(1, last))},
		{"all but the last", list(of(0, last)), list(of(0, last))},
		{"all but one within", list(of(0, 7), of(8, last)), list(of(0, 7), of(8, last-7))},
		{"all", list(of(1<<31, 1<<31), of(0, 1<<31)), list(of(0, last))},
		{"all, one by itself", list(of(last, 1), of(0, last)), list(of(0, last))},
		{"all, and beyond", list(of(0, 2), of(1, last), of(2, last)), list(of(0, last))},
	} {
		isList(t, c.what, span.Join(c.l...), c.want)
	}
}

func TestJoinIsWhatOneOfThemHas(t *testing.T) {
	g := rand.New(rand.NewSource(1))
	kinds := [][]api.Span{low(), high(), slices.Concat(low(), high()), slices.Concat(low(), high(), wide())}
	for n := range 8000 {
		from := kinds[n%len(kinds)]
		l := make([]api.Span, g.Intn(7))
		for i := range l {
			l[i] = from[g.Intn(len(from))]
		}
		got := span.Join(l...)
		whole := !slices.ContainsFunc(watched(), func(block uint32) bool { return !some(l, block) })
		if whole {
			isList(t, "all blocks", got, list(of(0, last)))
			continue
		}
		if !are(got, func(block uint32) bool { return some(l, block) }) {
			t.Errorf("%v: %v", l, got)
		}
		g.Shuffle(len(l), func(i, j int) { l[i], l[j] = l[j], l[i] })
		isList(t, "in another order", span.Join(l...), got)
		isList(t, "joined again", span.Join(got...), got)
	}
}

func TestSize(t *testing.T) {
	for _, c := range []struct {
		what string
		l    []api.Span
		size uint64
	}{
		{"nothing", nil, 0},
		{"no element", []api.Span{}, 0},
		{"no block", list(of(5, 0)), 0},
		{"some", list(of(5, 2), of(1, 3)), 5},
		{"the same twice", list(of(5, 2), of(5, 2)), 4},
		{"beyond the last block", list(of(last, 9)), 9},
		{"more than 32 bits", list(of(0, last), of(9, last), of(last, 2)), 2*last + 2},
	} {
		if n := span.Size(c.l); n != c.size {
			t.Errorf("%s: %d, not %d", c.what, n, c.size)
		}
	}
}

func TestInside(t *testing.T) {
	for _, c := range []struct {
		what   string
		s      api.Span
		l      []api.Span
		inside bool
	}{
		{"of nothing", of(2, 4), nil, false},
		{"of no element", of(2, 4), []api.Span{}, false},
		{"no block of nothing", of(2, 0), nil, true},
		{"no block of none", of(2, 0), list(of(5, 0)), true},
		{"no block of another one", of(2, 0), list(of(5, 1)), true},
		{"the same", of(2, 4), list(of(2, 4)), true},
		{"within", of(2, 4), list(of(0, 9)), true},
		{"all but the first", of(2, 4), list(of(3, 9)), false},
		{"all but the last", of(2, 4), list(of(0, 5)), false},
		{"two that touch", of(2, 4), list(of(4, 9), of(0, 4)), true},
		{"two with a hole", of(2, 4), list(of(5, 9), of(0, 4)), false},
		{"two, the hole being outside", of(2, 4), list(of(0, 6), of(7, 2)), true},
		{"none in the hole", of(2, 4), list(of(5, 9), of(4, 0), of(0, 4)), false},
		{"one by one, falling", of(2, 4), list(of(5, 1), of(4, 1), of(3, 1), of(2, 1)), true},
		{"the last block", of(last, 1), list(of(0, last)), false},
		{"the last block of all", of(last, 1), list(of(0, last), of(last, 1)), true},
		{"beyond, in all", of(last-1, 9), list(of(1<<31, 1<<31), of(0, 1<<31)), true},
		{"beyond, the last block missing", of(last-1, 9), list(of(0, last)), false},
		{"beyond, no block is there", of(last, 9), list(of(last, 1)), true},
		{"nearly all", of(0, last), list(of(0, 1<<31), of(1<<31, 1<<31-1)), true},
		{"all but the first one", of(1, last), list(of(0, 1<<31), of(1<<31, 1<<31)), true},
		{"all but the first one, but one", of(1, last), list(of(0, 1<<31), of(1<<31+1, 1<<31)), false},
	} {
		if inside := span.Inside(c.s, c.l); inside != c.inside {
			t.Errorf("%s: %v in %v: %v", c.what, c.s, c.l, inside)
		}
	}
}

func TestInsideIsEachBlock(t *testing.T) {
	g := rand.New(rand.NewSource(2))
	kinds := [][]api.Span{low(), high(), wide()}
	seen := 0
	for n := range 12000 {
		from := kinds[n%len(kinds)]
		s := from[g.Intn(len(from))]
		l := make([]api.Span, g.Intn(6))
		for i := range l {
			l[i] = from[g.Intn(len(from))]
		}
		want := !slices.ContainsFunc(watched(), func(block uint32) bool { return has(s, block) && !some(l, block) })
		if span.Inside(s, l) != want {
			t.Errorf("%v in %v: %v", s, l, !want)
		}
		if want {
			seen++
		}
	}
	if seen < 1000 || seen > 11000 {
		t.Errorf("%d were inside", seen)
	}
}

func TestListsStayAsTheyAre(t *testing.T) {
	room := list(of(7, 1), of(2, 4), of(2, 4), of(0, 9), of(1, 1))
	kept := slices.Clone(room)
	l := room[:3]
	isList(t, "joined", span.Join(l...), list(of(2, 4), of(7, 1)))
	if n := span.Size(l); n != 9 {
		t.Errorf("size %d", n)
	}
	if span.Inside(of(0, 2), l) || !span.Inside(of(3, 2), l) {
		t.Error("inside")
	}
	isList(t, "what was handed in", room, kept)
	one := list(of(2, 4))
	got := span.Join(one...)
	got[0] = of(9, 9)
	isList(t, "what was handed in, once the answer is written into", one, list(of(2, 4)))
}

// P3.4

func TestOrderIsOfNoMatter(t *testing.T) {
	pairs(func(a, b api.Span) {
		if span.Meet(a, b) != span.Meet(b, a) || span.Common(a, b) != span.Common(b, a) {
			t.Errorf("%v and %v", a, b)
		}
		if !slices.Equal(span.Join(a, b), span.Join(b, a)) {
			t.Errorf("%v and %v joined", a, b)
		}
	})
}

func TestPartsAreTheWhole(t *testing.T) {
	pairs(func(a, b api.Span) {
		both, left := span.Common(a, b), span.Without(a, b)
		if span.Meet(a, b) != (both.Count > 0) {
			t.Errorf("%v and %v meet, or have nothing in common", a, b)
		}
		isList(t, "what both have, and what one has alone", span.Join(append(left, both)...), span.Join(a))
		if n := span.Size(left) + uint64(both.Count); n != span.Size(span.Join(a)) {
			t.Errorf("%v parted by %v has %d", a, b, n)
		}
		for _, s := range left {
			if span.Meet(s, b) || !span.Inside(s, list(a)) {
				t.Errorf("%v without %v: %v", a, b, left)
			}
		}
		if !span.Inside(both, list(a)) || !span.Inside(both, list(b)) {
			t.Errorf("%v and %v: %v", a, b, both)
		}
	})
}
