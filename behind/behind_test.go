package behind_test

import (
	"math"
	"math/rand"
	"slices"
	"testing"

	"keelson/api"
	"keelson/behind"
	"keelson/entry"
)

const greatest = math.MaxUint64

func spanOf(from, count uint32) api.Span {
	return api.Span{From: from, Count: count}
}

// writes is a write of the request that its index numbers, of some blocks.
func writes(index uint64, s api.Span, looks ...api.Look) api.Entry {
	return api.Entry{Index: index, Term: 1, Start: 1, Kind: api.KindWrite, Client: 1, Req: index, Span: s, Behind: looks}
}

// looksAt is a look at a write of some blocks.
func looksAt(req uint64, s api.Span) api.Look {
	return api.Look{Client: 1, Req: req, Span: s}
}

// log is n writes, from the index 1 on, each of the block of its index.
func log(n int) []api.Entry {
	var l []api.Entry
	for i := range n {
		l = append(l, writes(uint64(i+1), spanOf(uint32(i+1), 1)))
	}
	return l
}

// lookers is entries that look behind at as much as can be, and at nothing.
func lookers() []api.Entry {
	three := []api.Look{looksAt(1, spanOf(1, 1)), {}, looksAt(3, spanOf(3, 3))}
	var l []api.Entry
	for _, index := range []uint64{1, 2, 3, 4, 5, 64, 65, 66, 1 << 32, api.MaxIndex - 64, api.MaxIndex, greatest} {
		for _, looks := range [][]api.Look{nil, {}, three[:1], three[:2], three, make([]api.Look, 64)} {
			if uint64(len(looks)) < index {
				l = append(l, writes(index, spanOf(4, 2), looks...))
			}
		}
	}
	return l
}

// said is what e says, by index: the element k is of the index that is less by 1 and k.
func said(e api.Entry) map[uint64]api.Look {
	m := map[uint64]api.Look{}
	index := e.Index
	for _, l := range e.Behind {
		if index == 0 {
			break
		}
		index--
		m[index] = l
	}
	return m
}

// near is indices about e, and far from it.
func near(e api.Entry) []uint64 {
	n := uint64(len(e.Behind))
	l := []uint64{0, 1, 2, 3, e.Index - n - 2, e.Index - n - 1, e.Index - n, e.Index - n + 1, e.Index - 3, e.Index - 2, e.Index - 1, e.Index, e.Index + 1, e.Index + 2, e.Index + n, 1 << 63, greatest - 1, greatest}
	for k := range uint64(70) {
		l = append(l, e.Index-k)
	}
	return l
}

func tellsAt(t *testing.T, e api.Entry, index uint64, want api.Look, told bool) {
	t.Helper()
	if l, ok := behind.At(e, index); l != want || ok != told {
		t.Errorf("%d, of %d elements, of %d: %+v, %v, not %+v, %v", e.Index, len(e.Behind), index, l, ok, want, told)
	}
}

func clashes(t *testing.T, e api.Entry, index uint64, want bool) {
	t.Helper()
	if behind.Clash(e, index) != want {
		t.Errorf("%+v clashes with %d: %v", e, index, !want)
	}
}

func voids(t *testing.T, what string, e, x api.Entry, want bool) {
	t.Helper()
	if behind.Voids(e, x) != want {
		t.Errorf("%s: %+v voids %+v: %v", what, e, x, !want)
	}
}

// P10.1

func TestMake(t *testing.T) {
	l := log(5)
	for n := -3; n <= 9; n++ {
		var want []api.Look
		for index := uint64(5); index > 0 && len(want) < n; index-- {
			want = append(want, looksAt(index, spanOf(uint32(index), 1)))
		}
		if got := behind.Make(l, n); !slices.Equal(got, want) {
			t.Errorf("the last %d: %+v, not %+v", n, got, want)
		}
	}
}

func TestMakeOfAnyNumber(t *testing.T) {
	for _, n := range []int{math.MinInt, -1, 0, 1, 64, 65, math.MaxInt} {
		for _, l := range [][]api.Entry{nil, {}, log(3)[:0]} {
			if got := behind.Make(l, n); len(got) != 0 {
				t.Errorf("the last %d of none: %+v", n, got)
			}
		}
		for _, size := range []int{1, 2, 64, 65, 200} {
			got := behind.Make(log(size), n)
			if want := max(0, min(n, size)); len(got) != want {
				t.Errorf("the last %d of %d: %d, not %d", n, size, len(got), want)
			}
		}
	}
}

func TestMakeTellsLooksOfAllKinds(t *testing.T) {
	l := []api.Entry{writes(1, spanOf(2, 3)), entry.Noop(2, 1, 1), {Index: 9, Kind: -5, Client: greatest, Req: 7, Span: spanOf(math.MaxUint32, 9)}}
	want := []api.Look{{Client: greatest, Req: 7, Span: spanOf(math.MaxUint32, 9)}, {}, looksAt(1, spanOf(2, 3))}
	if got := behind.Make(l, 3); !slices.Equal(got, want) {
		t.Errorf("%+v", got)
	}
}

func TestMakeLeavesTheList(t *testing.T) {
	l := log(6)
	got := behind.Make(l[:3], 9)
	if len(got) != 3 || got[0] != looksAt(3, spanOf(3, 1)) {
		t.Errorf("%+v", got)
	}
	clear(got[:cap(got)])
	for i, e := range log(6) {
		if !entry.Same(e, l[i]) {
			t.Errorf("%d came to be %+v", i, l[i])
		}
	}
}

func TestAt(t *testing.T) {
	for _, e := range lookers() {
		m := said(e)
		for _, index := range near(e) {
			want, told := m[index]
			tellsAt(t, e, index, want, told)
		}
	}
}

func TestAtOfTheEdges(t *testing.T) {
	a, b := looksAt(1, spanOf(1, 1)), looksAt(2, spanOf(2, 2))
	e := writes(5, spanOf(3, 2), a, b)
	tellsAt(t, e, 6, api.Look{}, false)
	tellsAt(t, e, 5, api.Look{}, false)
	tellsAt(t, e, 4, a, true)
	tellsAt(t, e, 3, b, true)
	tellsAt(t, e, 2, api.Look{}, false)
	tellsAt(t, e, 0, api.Look{}, false)
	tellsAt(t, e, greatest, api.Look{}, false)
	noop := writes(5, spanOf(3, 2), api.Look{})
	tellsAt(t, noop, 4, api.Look{}, true)
}

func TestAtReadsNothingBehindTheList(t *testing.T) {
	l := []api.Look{looksAt(1, spanOf(1, 1)), looksAt(2, spanOf(2, 2))}
	e := writes(5, spanOf(3, 2), l[:1]...)
	tellsAt(t, e, 3, api.Look{}, false)
	if n := behind.First(e); n != 4 {
		t.Errorf("from %d on", n)
	}
}

// An index below 1 is none that can be asked for: whoever says more than there is ahead does not say it of great ones.
func TestAtOfOneThatSaysMoreThanThereIs(t *testing.T) {
	for index := range uint64(6) {
		e := writes(index, spanOf(3, 2), make([]api.Look, 9)...)
		for k := range e.Behind {
			e.Behind[k] = looksAt(uint64(k), spanOf(1, 1))
		}
		for _, n := range []uint64{index, index + 1, index + 9, greatest - 8, greatest - 3, greatest - 1, greatest} {
			tellsAt(t, e, n, api.Look{}, false)
		}
		for n := uint64(1); n < index; n++ {
			tellsAt(t, e, n, looksAt(index-1-n, spanOf(1, 1)), true)
		}
		behind.First(e)
	}
}

func TestFirst(t *testing.T) {
	for _, e := range lookers() {
		want := e.Index
		for index := range said(e) {
			want = min(want, index)
		}
		if n := behind.First(e); n != want {
			t.Errorf("%d, of %d elements: from %d on, not %d", e.Index, len(e.Behind), n, want)
		}
	}
	if n := behind.First(api.Entry{}); n != 0 {
		t.Errorf("of nothing: %d", n)
	}
}

func TestMakeIsWhatAtTells(t *testing.T) {
	l := log(9)
	for n := range 10 {
		e := writes(10, spanOf(9, 9), behind.Make(l, n)...)
		for _, x := range l {
			if told := x.Index >= uint64(10-n); behind.Tells(e, x) != told {
				t.Errorf("%d of 9 tell of %d: %v", n, x.Index, !told)
			}
		}
		if first := behind.First(e); first != uint64(10-n) {
			t.Errorf("%d of 9: from %d on", n, first)
		}
	}
}

// P10.2

func TestClashOfTheExample(t *testing.T) {
	e := writes(5, spanOf(3, 2), looksAt(4, spanOf(3, 1)), looksAt(3, spanOf(1, 1)))
	for index, want := range []bool{true, true, true, false, true, false, false} {
		clashes(t, e, uint64(index), want)
	}
	clashes(t, e, greatest, false)
}

func TestClashOfSpans(t *testing.T) {
	for _, c := range []struct {
		own, looked api.Span
		want        bool
	}{
		{spanOf(4, 2), spanOf(4, 2), true},
		{spanOf(4, 2), spanOf(3, 1), false}, // touches
		{spanOf(4, 2), spanOf(3, 2), true},
		{spanOf(4, 2), spanOf(5, 3), true},
		{spanOf(4, 2), spanOf(6, 3), false}, // touches
		{spanOf(4, 2), spanOf(0, 64), true},
		{spanOf(0, 64), spanOf(4, 2), true},
		{spanOf(4, 2), spanOf(4, 0), false},
		{spanOf(4, 2), api.Span{}, false},
		{api.Span{}, spanOf(0, 8), false},
		{api.Span{}, api.Span{}, false},
		{spanOf(math.MaxUint32, 1), spanOf(math.MaxUint32-1, 1), false},
		{spanOf(math.MaxUint32, 1), spanOf(math.MaxUint32-1, 2), true},
		{spanOf(0, 1), spanOf(math.MaxUint32, 2), false},
	} {
		for _, client := range []uint64{0, 1} {
			e := writes(3, c.own, api.Look{Client: client, Req: 2, Span: c.looked})
			clashes(t, e, 2, c.want)
		}
	}
}

func TestClashOfNoops(t *testing.T) {
	e := entry.Noop(5, 1, 1)
	e.Behind = []api.Look{looksAt(4, spanOf(3, 1)), {}}
	for index, want := range []bool{true, true, true, false, false, false, false} {
		clashes(t, e, uint64(index), want)
	}
	w := writes(5, spanOf(0, 8), api.Look{}, looksAt(3, spanOf(0, 1)))
	for index, want := range []bool{true, true, true, true, false, false, false} {
		clashes(t, w, uint64(index), want)
	}
}

func TestClash(t *testing.T) {
	for _, e := range lookers() {
		m := said(e)
		for _, index := range near(e) {
			look, told := m[index]
			both := false
			for block := range uint32(10) {
				in := func(s api.Span) bool { return s.From <= block && block < s.From+s.Count }
				both = both || in(look.Span) && in(e.Span)
			}
			clashes(t, e, index, index < e.Index && (!told || both))
		}
	}
	clashes(t, api.Entry{}, 0, false)
	clashes(t, api.Entry{}, greatest, false)
}

// P10.3

func TestTells(t *testing.T) {
	x := writes(4, spanOf(3, 1))
	e := writes(5, spanOf(3, 2), entry.Look(x), api.Look{})
	for _, c := range []struct {
		name   string
		change func(x *api.Entry)
		want   bool
	}{
		{"as it is", func(x *api.Entry) {}, true},
		{"another term", func(x *api.Entry) { x.Term = 9 }, true},
		{"another start", func(x *api.Entry) { x.Start = 9 }, true},
		{"another kind", func(x *api.Entry) { x.Kind = 9 }, true},
		{"other data", func(x *api.Entry) { x.Data = "x" }, true},
		{"another behind", func(x *api.Entry) { x.Behind = []api.Look{{}} }, true},
		{"another client", func(x *api.Entry) { x.Client = 2 }, false},
		{"another request", func(x *api.Entry) { x.Req = 5 }, false},
		{"another block", func(x *api.Entry) { x.Span.From = 4 }, false},
		{"more blocks", func(x *api.Entry) { x.Span.Count = 2 }, false},
		{"a noop", func(x *api.Entry) { *x = entry.Noop(4, 1, 1) }, false},
		{"e's own index", func(x *api.Entry) { x.Index = 5 }, false},
		{"the next index", func(x *api.Entry) { x.Index = 6 }, false},
		{"the first index", func(x *api.Entry) { x.Index = 3 }, false},
		{"the one ahead", func(x *api.Entry) { x.Index = 2 }, false},
		{"no index", func(x *api.Entry) { x.Index = 0 }, false},
		{"the greatest index", func(x *api.Entry) { x.Index = greatest }, false},
		{"a noop at the first index", func(x *api.Entry) { *x = entry.Noop(3, 1, 1) }, true},
		{"a noop at e's own index", func(x *api.Entry) { *x = entry.Noop(5, 1, 1) }, false},
		{"a noop ahead of the first index", func(x *api.Entry) { *x = entry.Noop(2, 1, 1) }, false},
		{"a noop at no index", func(x *api.Entry) { *x = entry.Noop(0, 1, 1) }, false},
		{"a noop far behind", func(x *api.Entry) { *x = entry.Noop(greatest, 1, 1) }, false},
	} {
		y := x
		c.change(&y)
		if behind.Tells(e, y) != c.want {
			t.Errorf("%s: %v", c.name, !c.want)
		}
	}
	if behind.Tells(api.Entry{}, api.Entry{}) {
		t.Error("nothing tells of nothing")
	}
}

// leads is what one wrote in the term 5, whose first new index was 20: the request 40, at 30, looking behind at 29 and 28, a write and a noop.
func leads() api.Entry {
	return api.Entry{Index: 30, Term: 5, Start: 20, Kind: api.KindWrite, Client: 1, Req: 40, Span: spanOf(1, 1), Data: "01234567", Behind: []api.Look{looksAt(39, spanOf(3, 1)), {}}}
}

// other is a write of an older term, of a request of its own.
func other(index uint64) api.Entry {
	return api.Entry{Index: index, Term: 4, Start: 1, Kind: api.KindWrite, Client: 2, Req: 7, Span: spanOf(5, 1), Data: "01234567"}
}

func TestVoidsFromStartOn(t *testing.T) {
	for _, c := range []struct {
		index uint64
		want  bool
	}{{0, false}, {1, false}, {18, false}, {19, false}, {20, true}, {21, true}, {27, true}, {28, true}, {29, true}, {30, true}, {31, true}, {greatest, true}} {
		voids(t, "about Start", leads(), other(c.index), c.want)
		noop := entry.Noop(c.index, 4, 1)
		voids(t, "a noop about Start", leads(), noop, c.want)
	}
	e := leads()
	e.Start = 0
	voids(t, "from 0 on", e, other(0), true)
	e.Start = greatest
	voids(t, "from the greatest on", e, other(greatest-1), false)
	voids(t, "from the greatest on", e, other(greatest), true)
	voids(t, "what is told, at Start", leads(), api.Entry{Index: 29, Term: 4, Kind: api.KindWrite, Client: 1, Req: 39, Span: spanOf(3, 1)}, true)
}

func TestVoidsOnlyOlderTerms(t *testing.T) {
	again := leads()
	again.Index = 19
	for _, x := range []api.Entry{other(25), other(30), again} {
		for _, term := range []uint64{0, 1, 4, 5, 6, api.MaxIndex, greatest} {
			x.Term = term
			voids(t, "a term", leads(), x, term < 5)
		}
	}
	e := leads()
	e.Term = 0
	x := other(25)
	x.Term = 0
	voids(t, "the term 0", e, x, false)
	e.Term, x.Term = greatest, greatest-1
	voids(t, "the greatest term", e, x, true)
}

func TestVoidsWhatIsSaidToBeSomethingElse(t *testing.T) {
	e := leads()
	e.Start = 31 // so that nothing of it lies from Start on
	told := api.Entry{Index: 29, Term: 4, Start: 1, Kind: api.KindWrite, Client: 1, Req: 39, Span: spanOf(3, 1)}
	voids(t, "what is told", e, told, false)
	voids(t, "a noop that is told", e, entry.Noop(28, 4, 1), false)
	voids(t, "a noop where a write is told", e, entry.Noop(29, 4, 1), true)
	voids(t, "a write where a noop is told", e, other(28), true)
	for name, change := range map[string]func(x *api.Entry){
		"another client":  func(x *api.Entry) { x.Client = 2 },
		"another request": func(x *api.Entry) { x.Req = 38 },
		"another block":   func(x *api.Entry) { x.Span.From = 4 },
		"more blocks":     func(x *api.Entry) { x.Span.Count = 2 },
	} {
		x := told
		change(&x)
		voids(t, name, e, x, true)
	}
	x := told
	x.Data, x.Behind, x.Start = "other", []api.Look{{}}, 29
	voids(t, "what is told, with other data", e, x, false)
	for _, index := range []uint64{0, 1, 26, 27, 30} {
		voids(t, "where nothing is told", e, other(index), false)
		voids(t, "a noop where nothing is told", e, entry.Noop(index, 4, 1), false)
	}
}

func TestVoidsTheSameRequestElsewhere(t *testing.T) {
	e := leads()
	e.Start = 31
	same := leads()
	same.Term = 4
	for _, index := range []uint64{0, 1, 19, 27, 30} {
		x := same
		x.Index = index
		voids(t, "the same request", e, x, index != 30)
		x.Span, x.Data, x.Behind, x.Start = spanOf(8, 2), "other", nil, 1
		voids(t, "the same request, of other blocks", e, x, index != 30)
	}
	for name, change := range map[string]func(e, x *api.Entry){
		"another client":     func(e, x *api.Entry) { x.Client++ },
		"another request":    func(e, x *api.Entry) { x.Req++ },
		"a noop":             func(e, x *api.Entry) { x.Kind = api.KindNoop },
		"of a noop":          func(e, x *api.Entry) { e.Kind = api.KindNoop },
		"two noops":          func(e, x *api.Entry) { e.Kind, x.Kind = api.KindNoop, api.KindNoop },
		"two of no kind":     func(e, x *api.Entry) { e.Kind, x.Kind = 0, 0 },
		"another kind":       func(e, x *api.Entry) { x.Kind = 257 },
		"of another kind":    func(e, x *api.Entry) { e.Kind = 257 },
		"client and request": func(e, x *api.Entry) { x.Client, x.Req = x.Req, x.Client },
	} {
		e, x := e, same
		x.Index = 19
		change(&e, &x)
		voids(t, name, e, x, false)
	}
	behindStart := same
	behindStart.Index = 35
	voids(t, "the same request, behind", e, behindStart, true)
	e.Start = 40
	voids(t, "the same request, behind, ahead of Start", e, behindStart, true)
	voids(t, "another request, behind, ahead of Start", e, other(35), false)
	none := api.Entry{Index: 5, Term: 2, Start: 9, Kind: api.KindWrite}
	voids(t, "no request, elsewhere", none, api.Entry{Index: 3, Term: 1, Kind: api.KindWrite}, true)
}

// drawn is an entry of which each part is one of few.
func drawn(g *rand.Rand) api.Entry {
	n := func(below int) uint64 { return uint64(g.Intn(below)) }
	look := func() api.Look {
		return api.Look{Client: n(2), Req: n(3), Span: spanOf(uint32(n(2)), uint32(n(2)))}
	}
	own := look()
	e := api.Entry{Index: n(9), Term: n(4), Start: n(9), Kind: g.Intn(3), Client: own.Client, Req: own.Req, Span: own.Span}
	for range g.Intn(int(max(1, e.Index))) {
		e.Behind = append(e.Behind, look())
	}
	return e
}

// can tells whether x may lie at its index for good, e being, by what P10.3 names.
func can(e, x api.Entry) bool {
	var against []string
	if x.Index >= e.Start {
		against = append(against, "new in e's term")
	}
	if l, told := said(e)[x.Index]; told && l != (api.Look{Client: x.Client, Req: x.Req, Span: x.Span}) {
		against = append(against, "something else")
	}
	if e.Kind == 1 && x.Kind == 1 && [2]uint64{e.Client, e.Req} == [2]uint64{x.Client, x.Req} && e.Index != x.Index {
		against = append(against, "twice")
	}
	return x.Term >= e.Term || len(against) == 0
}

func TestVoidsOfMany(t *testing.T) {
	g := rand.New(rand.NewSource(1))
	var of [2]int
	for range 300000 {
		e, x := drawn(g), drawn(g)
		want := !can(e, x)
		voids(t, "one of many", e, x, want)
		l, told := said(e)[x.Index]
		if tells := told && l == entry.Look(x); behind.Tells(e, x) != tells {
			t.Errorf("%+v tells of %+v: %v", e, x, !tells)
		}
		if want {
			of[1]++
		} else {
			of[0]++
		}
	}
	if min(of[0], of[1]) < 30000 {
		t.Errorf("%d voided, %d not", of[1], of[0])
	}
}

// P10.4

func TestWhoIsToldOfIsNotVoidByThat(t *testing.T) {
	g := rand.New(rand.NewSource(2))
	var told int
	for range 300000 {
		e, x := drawn(g), drawn(g)
		if l, ok := behind.At(e, x.Index); ok && g.Intn(2) == 0 {
			x.Client, x.Req, x.Span = l.Client, l.Req, l.Span
		}
		again := e.Kind == 1 && x.Kind == 1 && e.Client == x.Client && e.Req == x.Req
		if !behind.Tells(e, x) || x.Index >= e.Start || again {
			continue
		}
		told++
		voids(t, "told of", e, x, false)
	}
	if told < 10000 {
		t.Errorf("%d were told of", told)
	}
}

func TestNoEntryVoidsOneOfItsOwnTerm(t *testing.T) {
	g := rand.New(rand.NewSource(3))
	for range 300000 {
		e, x := drawn(g), drawn(g)
		x.Term = e.Term
		voids(t, "of the same term", e, x, false)
		voids(t, "itself", e, e, false)
	}
}
