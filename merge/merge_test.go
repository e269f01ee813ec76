package merge_test

import (
	"math"
	"math/rand"
	"slices"
	"strings"
	"testing"

	"keelson/api"
	"keelson/merge"
)

const greatest = math.MaxUint64

func spanOf(from, count uint32) api.Span {
	return api.Span{From: from, Count: count}
}

// writes is a write of the client 1's request req, of the block that the request numbers.
func writes(index, term, start, req uint64, looks ...api.Look) api.Entry {
	data := strings.Repeat(string(rune('a'+req%26)), api.BlockLen)
	return api.Entry{Index: index, Term: term, Start: start, Kind: api.KindWrite, Client: 1, Req: req, Span: spanOf(uint32(req%16), 1), Data: data, Behind: looks}
}

func noop(index, term, start uint64, looks ...api.Look) api.Entry {
	return api.Entry{Index: index, Term: term, Start: start, Kind: api.KindNoop, Behind: looks}
}

func lookOf(e api.Entry) api.Look {
	return api.Look{Client: e.Client, Req: e.Req, Span: e.Span}
}

func same(a, b api.Entry) bool {
	return a.Index == b.Index && a.Term == b.Term && a.Start == b.Start && a.Kind == b.Kind && lookOf(a) == lookOf(b) && a.Data == b.Data && slices.Equal(a.Behind, b.Behind)
}

func isZero(e api.Entry) bool {
	return same(e, api.Entry{})
}

func lists(l ...[]api.Entry) [][]api.Entry {
	return l
}

// voids tells whether e voids x, as the tests tell it: what e says of each index is laid out ahead.
func voids(e, x api.Entry) bool {
	if e.Term <= x.Term {
		return false
	}
	said := map[uint64]api.Look{}
	for k, l := range e.Behind {
		said[e.Index-1-uint64(k)] = l
	}
	look, told := said[x.Index]
	switch {
	case e.Start <= x.Index:
		return true
	case told && look != lookOf(x):
		return true
	}
	return e.Kind == api.KindWrite && x.Kind == api.KindWrite && e.Client == x.Client && e.Req == x.Req && e.Index != x.Index
}

func isVoid(x api.Entry, all [][]api.Entry) bool {
	for _, e := range slices.Concat(all...) {
		if voids(e, x) {
			return true
		}
	}
	return false
}

// best tells the best one by sorting all that may be it, the greatest term first.
func best(index uint64, all [][]api.Entry) (api.Entry, bool) {
	var l []api.Entry
	for _, e := range slices.Concat(all...) {
		if e.Index == index && !isVoid(e, all) {
			l = append(l, e)
		}
	}
	slices.SortStableFunc(l, func(a, b api.Entry) int {
		switch {
		case a.Term > b.Term:
			return -1
		case a.Term < b.Term:
			return 1
		}
		return 0
	})
	if len(l) == 0 {
		return api.Entry{}, false
	}
	return l[0], true
}

// merged tells what is gone on with: the last one first, so that it is known where the term starts.
func merged(base, term uint64, n int, all [][]api.Entry) []api.Entry {
	var out []api.Entry
	for k := uint64(api.MaxLog); k >= 1; k-- {
		index := base + k
		if index < base {
			continue
		}
		b, found := best(index, all)
		if !found && len(out) == 0 {
			continue
		}
		e := api.Entry{Index: index, Term: term, Start: index + 1, Kind: api.KindNoop}
		if found {
			e.Kind, e.Client, e.Req, e.Span, e.Data = b.Kind, b.Client, b.Req, b.Span, b.Data
		}
		if len(out) > 0 {
			e.Start = out[0].Start
		}
		out = append([]api.Entry{e}, out...)
	}
	for k := range out {
		for j := k - 1; j >= 0 && k-j <= n; j-- {
			out[k].Behind = append(out[k].Behind, lookOf(out[j]))
		}
	}
	return out
}

func sameLists(a, b []api.Entry) bool {
	return slices.EqualFunc(a, b, same)
}

func copied(all [][]api.Entry) [][]api.Entry {
	out := make([][]api.Entry, len(all))
	for i, l := range all {
		out[i] = make([]api.Entry, len(l))
		for k, e := range l {
			e.Behind = slices.Clone(e.Behind)
			out[i][k] = e
		}
	}
	return out
}

// some tells lists such as nodes may have, and others, near base.
func some(g *rand.Rand, base uint64) [][]api.Entry {
	all := make([][]api.Entry, g.Intn(5))
	terms := 1 + g.Intn(4)
	for i := range all {
		for range g.Intn(7) {
			index := base + uint64(g.Intn(9)) - 1
			e := writes(index, uint64(g.Intn(terms)), base+uint64(g.Intn(12)), uint64(g.Intn(6)))
			if g.Intn(3) == 0 {
				e = noop(e.Index, e.Term, e.Start)
			}
			for range g.Intn(4) {
				e.Behind = append(e.Behind, []api.Look{{}, lookOf(writes(1, 1, 1, uint64(g.Intn(6))))}[g.Intn(2)])
			}
			all[i] = append(all[i], e)
		}
	}
	return all
}

// P23.1: Void.
func TestVoid(t *testing.T) {
	x := writes(5, 2, 1, 7)
	later := noop(9, 3, 8)
	starts := noop(9, 3, 5)
	says := noop(6, 3, 6, lookOf(writes(5, 1, 1, 8)))
	agrees := noop(6, 3, 6, lookOf(x))
	again := writes(9, 3, 9, 7)
	for _, c := range []struct {
		name string
		all  [][]api.Entry
		want bool
	}{
		{"no lists", nil, false},
		{"empty ones", lists(nil, []api.Entry{}, nil), false},
		{"nobody voids", lists([]api.Entry{later, agrees}, []api.Entry{x}), false},
		{"one from Start on", lists(nil, []api.Entry{later, starts}), true},
		{"one that says something else", lists([]api.Entry{later}, []api.Entry{later}, []api.Entry{says}), true},
		{"one of the same request", lists([]api.Entry{again}, nil), true},
		{"several", lists([]api.Entry{again, starts}, []api.Entry{says}), true},
		{"one of its own list", lists([]api.Entry{x, starts}), true},
		{"one ahead of it in its own list", lists([]api.Entry{starts, x}), true},
		{"its own term", lists([]api.Entry{noop(9, 2, 1), writes(8, 2, 1, 7), noop(6, 2, 1, api.Look{})}), false},
		{"an earlier term", lists([]api.Entry{noop(9, 1, 1)}), false},
		{"itself", lists([]api.Entry{x}, []api.Entry{x}), false},
	} {
		if got := merge.Void(x, c.all...); got != c.want {
			t.Error(c.name, got)
		}
	}
	if merge.Void(x) || !merge.Void(api.Entry{}, []api.Entry{noop(1, 1, 0)}) {
		t.Error("of nothing, or of the zero one")
	}
}

// P23.1: Best.
func TestBest(t *testing.T) {
	low, high := writes(5, 2, 3, 1, api.Look{}), writes(5, 4, 6, 2, api.Look{}, api.Look{Req: 3})
	twin := writes(5, 4, 6, 3)
	voider := noop(6, 5, 6, lookOf(low)) // says of 5 that low is there
	all := noop(7, 6, 1)                 // gives all anew
	for _, c := range []struct {
		name  string
		index uint64
		all   [][]api.Entry
		want  api.Entry
		ok    bool
	}{
		{"no lists", 5, nil, api.Entry{}, false},
		{"empty ones", 5, lists(nil, []api.Entry{}), api.Entry{}, false},
		{"nobody has it", 4, lists([]api.Entry{low}, []api.Entry{high}), api.Entry{}, false},
		{"one has it", 5, lists(nil, []api.Entry{voider, low}), low, true},
		{"unlike terms, in one list", 5, lists([]api.Entry{low, high, low}), high, true},
		{"unlike terms, in several", 5, lists([]api.Entry{high}, []api.Entry{low}), high, true},
		{"unlike terms, the other way", 5, lists([]api.Entry{low}, []api.Entry{high}), high, true},
		{"the same term, in one list", 5, lists([]api.Entry{low, high, twin}), high, true},
		{"the same term, the other way", 5, lists([]api.Entry{twin, high, low}), twin, true},
		{"the same term, in several", 5, lists([]api.Entry{low}, []api.Entry{twin}, []api.Entry{high}), twin, true},
		{"the greatest is void", 5, lists([]api.Entry{high}, []api.Entry{low}, []api.Entry{voider}), low, true},
		{"both of the greatest are void", 5, lists([]api.Entry{high, twin, voider, low}), low, true},
		{"all are void", 5, lists([]api.Entry{high, low}, []api.Entry{all}), api.Entry{}, false},
		{"of index 0", 0, lists([]api.Entry{noop(0, 1, 1)}), noop(0, 1, 1), true},
		{"of the greatest index", greatest, lists([]api.Entry{writes(greatest, greatest, greatest, 4)}), writes(greatest, greatest, greatest, 4), true},
		{"of the greatest, which nobody has", greatest, lists([]api.Entry{low}), api.Entry{}, false},
		{"of the term 0", 2, lists([]api.Entry{noop(2, 0, 0)}), noop(2, 0, 0), true},
	} {
		got, ok := merge.Best(c.index, c.all...)
		if ok != c.ok || !same(got, c.want) {
			t.Error(c.name, got, ok)
		}
	}
	if e, ok := merge.Best(3); ok || !isZero(e) {
		t.Error("of nothing")
	}
}

// P23.1: what Best tells is in memory of its own.
func TestBestIsItsOwn(t *testing.T) {
	looks := make([]api.Look, 2, 9)
	looks[:3][2] = api.Look{Req: 77}
	l := []api.Entry{writes(5, 2, 3, 1, looks...)}
	l[0].Behind = looks
	before := copied(lists(l))
	e, ok := merge.Best(5, l)
	if !ok || len(e.Behind) != 2 {
		t.Fatal(e, ok)
	}
	e.Behind[0], e.Behind[1] = api.Look{Client: 3}, api.Look{Req: 4}
	_ = append(e.Behind, api.Look{Req: 5})
	if !sameLists(l, before[0]) || looks[:3][2] != (api.Look{Req: 77}) {
		t.Error("a list is written over", l)
	}
	if again, _ := merge.Best(5, l); !same(again, before[0][0]) {
		t.Error("another answer is written over", again)
	}
}

// P23.1, against the tests' own telling.
func TestBestAndVoidAsTold(t *testing.T) {
	g := rand.New(rand.NewSource(231))
	for range 4000 {
		base := []uint64{1, 50, greatest - 6}[g.Intn(3)]
		all := some(g, base)
		before := copied(all)
		for _, x := range append(slices.Concat(all...), api.Entry{}) {
			if merge.Void(x, all...) != isVoid(x, all) {
				t.Fatal("void", x, all)
			}
		}
		for k := range uint64(12) {
			got, ok := merge.Best(base-2+k, all...)
			want, has := best(base-2+k, all)
			if ok != has || !same(got, want) {
				t.Fatal("best", base-2+k, all, got, want)
			}
		}
		if !slices.EqualFunc(all, before, sameLists) {
			t.Fatal("the lists are changed")
		}
	}
}

// P23.2: where there is one, and where none.
func TestMergeFromBaseOn(t *testing.T) {
	for _, c := range []struct {
		name string
		base uint64
		at   []uint64
		want int
	}{
		{"nothing", 0, nil, 0},
		{"base and 1 alone", 10, []uint64{11}, 1},
		{"base and MaxLog alone", 10, []uint64{10 + api.MaxLog}, api.MaxLog},
		{"base alone", 10, []uint64{10}, 0},
		{"base and MaxLog and 1 alone", 10, []uint64{11 + api.MaxLog}, 0},
		{"both beside them", 10, []uint64{10, 9, 0, 11 + api.MaxLog, 12 + api.MaxLog}, 0},
		{"holes", 10, []uint64{11, 14, 17}, 7},
		{"the last one behind a hole", 0, []uint64{1, 2, 9}, 9},
		{"0", 0, []uint64{0, 2}, 2},
		{"near 2^64", greatest - 3, []uint64{greatest - 1, greatest - 3, 0, 1}, 2},
		{"up to 2^64", greatest - api.MaxLog, []uint64{greatest}, api.MaxLog},
		{"below 2^64", greatest - 3, []uint64{greatest}, 3},
		{"nothing above", greatest, []uint64{greatest, 0, 1, api.MaxLog}, 0},
	} {
		var l []api.Entry
		for k, index := range c.at {
			l = append(l, writes(index, 3, 2, uint64(k+1)))
		}
		got := merge.Merge(c.base, 5, 2, l)
		if len(got) != c.want {
			t.Error(c.name, len(got))
		}
		for k, e := range got {
			at := slices.Index(c.at, e.Index)
			isNoop := e.Kind == api.KindNoop && lookOf(e) == api.Look{} && e.Data == ""
			isWrite := at >= 0 && e.Kind == l[max(at, 0)].Kind && e.Data == l[max(at, 0)].Data && lookOf(e) == lookOf(l[max(at, 0)])
			if e.Index != c.base+1+uint64(k) || e.Term != 5 || e.Start != c.base+1+uint64(c.want) || at < 0 && !isNoop || at >= 0 && !isWrite {
				t.Error(c.name, e)
			}
		}
	}
	if l := merge.Merge(3, 5, 2); len(l) != 0 {
		t.Error("of no lists", l)
	}
	if l := merge.Merge(3, 5, 2, nil, []api.Entry{}); len(l) != 0 {
		t.Error("of empty ones", l)
	}
}

// P23.2, its example, and how far each looks behind.
func TestMergeLooksBehind(t *testing.T) {
	three := writes(3, 4, 4, 9)
	got := merge.Merge(1, 6, 1, []api.Entry{three})
	want := []api.Entry{noop(2, 6, 4), writes(3, 6, 4, 9, api.Look{})}
	if !sameLists(got, want) {
		t.Error(got)
	}
	l := []api.Entry{writes(1, 1, 1, 1), writes(2, 1, 1, 2), writes(4, 1, 1, 4)}
	looks := []api.Look{{}, lookOf(l[1]), lookOf(l[0])}
	for n, most := range map[int]int{-1: 0, math.MinInt: 0, 0: 0, 1: 1, 2: 2, 3: 3, 4: 3, 64: 3, math.MaxInt: 3} {
		got := merge.Merge(0, 2, n, l)
		if len(got) != 4 || !slices.Equal(got[3].Behind, looks[:most]) || !slices.Equal(got[1].Behind, looks[2:][:min(most, 1)]) || len(got[0].Behind) != 0 {
			t.Error(n, got)
		}
	}
}

// P23.2: all void is as if nobody had it.
func TestMergeWithoutTheVoid(t *testing.T) {
	l := []api.Entry{writes(1, 1, 1, 1), writes(2, 1, 1, 2), writes(3, 1, 1, 3)}
	over := noop(2, 2, 2, lookOf(l[0]))
	if got := merge.Merge(0, 3, 8, l, []api.Entry{over}); len(got) != 2 || got[0].Data != l[0].Data || got[1].Kind != api.KindNoop {
		t.Error("what is void from Start on", got)
	}
	if got := merge.Merge(0, 3, 8, l, []api.Entry{noop(0, 2, 1)}); len(got) != 0 {
		t.Error("all void", got)
	}
	again := writes(3, 2, 3, 1)
	if got := merge.Merge(0, 3, 8, l[:1], []api.Entry{again}); len(got) != 3 || got[0].Kind != api.KindNoop || got[2].Req != 1 {
		t.Error("the same request", got)
	}
}

// P23.2, P23.3, against the tests' own telling: in order, without holes, whatever the order of lists.
func TestMergeAsTold(t *testing.T) {
	g := rand.New(rand.NewSource(232))
	for range 1500 {
		base := []uint64{0, 1, 50, greatest - 5, greatest - 2}[g.Intn(5)]
		all := some(g, base)
		before := copied(all)
		n := g.Intn(7) - 1
		got := merge.Merge(base, 9, n, all...)
		if !sameLists(got, merged(base, 9, n, all)) {
			t.Fatal(base, n, all, got)
		}
		for k, e := range got {
			if e.Index != base+1+uint64(k) {
				t.Fatal("out of order", got)
			}
			for j := range e.Behind {
				e.Behind[j] = api.Look{Client: 99}
			}
			got[k] = api.Entry{}
		}
		if !slices.EqualFunc(all, before, sameLists) {
			t.Fatal("the lists are changed")
		}
	}
}

// P23.3: in which order lists come is of no matter, where no two of one index and one term are unlike.
func TestMergeInEachOrder(t *testing.T) {
	g := rand.New(rand.NewSource(233))
	for range 1500 {
		all := some(g, 3)
		first := map[[2]uint64]api.Entry{}
		for _, l := range all {
			for k, e := range l {
				at := [2]uint64{e.Index, e.Term}
				if x, again := first[at]; again {
					l[k] = x
				} else {
					first[at] = e
				}
			}
		}
		want := merge.Merge(2, 9, 3, all...)
		for range 4 {
			g.Shuffle(len(all), func(i, j int) { all[i], all[j] = all[j], all[i] })
			for _, l := range all {
				g.Shuffle(len(l), func(i, j int) { l[i], l[j] = l[j], l[i] })
			}
			if got := merge.Merge(2, 9, 3, all...); !sameLists(got, want) {
				t.Fatal(all, got, want)
			}
		}
	}
}

// P23.3: what all of a majority have of one term, and nobody of a later one, is gone on with.
func TestMergeKeepsWhatAMajorityHas(t *testing.T) {
	g := rand.New(rand.NewSource(234))
	for range 1500 {
		x := writes(4, 5, uint64(1+g.Intn(6)), 50, lookOf(writes(3, 1, 1, 3)))
		nodes := some(g, 2) // of the terms 0 to 3
		for len(nodes) < 5 {
			nodes = append(nodes, []api.Entry{x, writes(6, 5, 1, 60)})
		}
		for i := range 3 { // a majority of five
			nodes[i] = append(nodes[i], x)
		}
		asked := g.Perm(5)[:3]
		var all [][]api.Entry
		for _, i := range asked {
			all = append(all, nodes[i])
		}
		got := merge.Merge(1, 6, 2, all...)
		if len(got) < 3 || got[2].Index != 4 || got[2].Kind != x.Kind || lookOf(got[2]) != lookOf(x) || got[2].Data != x.Data {
			t.Fatal(all, got)
		}
	}
}
