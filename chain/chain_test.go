package chain_test

import (
	"maps"
	"math"
	"math/rand"
	"slices"
	"strconv"
	"testing"

	"keelson/api"
	"keelson/chain"
)

const (
	greatest = math.MaxUint64
	most     = 4096 // items of a chain
)

// bases are some that may be, from the least to the greatest.
func bases() []uint64 {
	return []uint64{0, 1, 2, 7, 63, 64, 1 << 32, 1<<61 + 7, api.MaxIndex - 1, api.MaxIndex}
}

// items are some of these terms, each unlike all others of another name, or place.
func items(name string, terms ...uint64) []chain.Item {
	var l []chain.Item
	for k, term := range terms {
		l = append(l, chain.Item{Term: term, Kind: k - 1, Text: name + strconv.Itoa(k)})
	}
	return l
}

// many are so many items of one term.
func many(name string, n int, term uint64) []chain.Item {
	return items(name, slices.Repeat([]uint64{term}, n)...)
}

// model is a chain as the tests tell it: a table by number, in which the base stands, too, with its term alone.
type model struct {
	base uint64
	at   map[uint64]chain.Item
}

func modelOf(base, term uint64) *model {
	return &model{base, map[uint64]chain.Item{base: {Term: term}}}
}

func (m *model) last() uint64 {
	return m.base + uint64(len(m.at)) - 1
}

func (m *model) term(i uint64) (uint64, bool) {
	x, ok := m.at[i]
	return x.Term, ok
}

func (m *model) get(i uint64) (chain.Item, bool) {
	if i == m.base {
		return chain.Item{}, false
	}
	x, ok := m.at[i]
	return x, ok
}

func (m *model) from(i uint64) []chain.Item {
	var l []chain.Item
	for n := m.base + 1; n <= m.last(); n++ {
		if n >= i {
			l = append(l, m.at[n])
		}
	}
	return l
}

// wrong tells what a chain may not be: too long, and then of terms that fall.
func (m *model) wrong() api.Errno {
	if len(m.at)-1 > most {
		return api.ErrFull
	}
	for n := m.base + 1; n <= m.last(); n++ {
		if m.at[n].Term < m.at[n-1].Term {
			return api.ErrArg
		}
	}
	return api.OK
}

func (m *model) clone() *model {
	return &model{m.base, maps.Clone(m.at)}
}

func (m *model) add(l ...chain.Item) api.Errno {
	then := m.clone()
	for _, x := range l {
		then.at[then.last()+1] = x
	}
	if e := then.wrong(); e != api.OK {
		return e
	}
	*m = *then
	return api.OK
}

func (m *model) take(prev, term uint64, l []chain.Item) (uint64, bool) {
	if prev > m.last() {
		return 0, false
	}
	if own, ok := m.at[prev]; ok && own.Term != term {
		return 0, false
	}
	then := m.clone()
	other := false
	number := max(prev, m.base)
	for k, x := range l {
		i := prev + uint64(k) + 1
		number = max(i, m.base)
		own, ok := m.at[i]
		if i <= m.base || !other && ok && own.Term == x.Term {
			continue
		}
		if !other {
			maps.DeleteFunc(then.at, func(n uint64, _ chain.Item) bool { return n >= i })
		}
		other = true
		then.at[i] = x
	}
	if then.wrong() != api.OK {
		return 0, false
	}
	*m = *then
	return number, true
}

func (m *model) cut(base uint64) api.Errno {
	if base > m.last() {
		return api.ErrRange
	}
	for n := m.base; n < base; n++ {
		delete(m.at, n)
	}
	m.base = max(m.base, base)
	return api.OK
}

func (m *model) newer(last, term uint64) bool {
	if own := m.at[m.last()].Term; own != term {
		return own < term
	}
	return m.last() <= last
}

// both is a chain, and the model that must tell the same.
type both struct {
	t *testing.T
	c *chain.Chain
	m *model
}

func start(t *testing.T, base, term uint64, l ...chain.Item) *both {
	t.Helper()
	c := chain.New(base, term)
	if c == nil {
		t.Fatalf("no chain behind %d of the term %d", base, term)
	}
	b := &both{t, c, modelOf(base, term)}
	b.add(l...)
	return b
}

func (b *both) clone() *both {
	return &both{b.t, b.c.Clone(), b.m.clone()}
}

func (b *both) add(l ...chain.Item) {
	b.t.Helper()
	want := b.m.add(l...)
	if got := b.c.Add(l...); got != want {
		b.t.Errorf("Add of %d items behind %d: %d, not %d", len(l), b.m.last(), int(got), int(want))
	}
}

func (b *both) take(prev, term uint64, l []chain.Item) bool {
	b.t.Helper()
	want, sure := b.m.take(prev, term, l)
	got, ok := b.c.Take(prev, term, l)
	if got != want || ok != sure {
		b.t.Errorf("Take(%d, %d, %d items): %d and %v, not %d and %v", prev, term, len(l), got, ok, want, sure)
	}
	return ok
}

func (b *both) cut(base uint64) {
	b.t.Helper()
	was := b.m.base
	want := b.m.cut(base)
	if got := b.c.Cut(base); got != want {
		b.t.Errorf("Cut(%d) behind %d: %d, not %d", base, was, int(got), int(want))
	}
}

// numbers are those at the borders of a chain, and of all numbers.
func (b *both) numbers() []uint64 {
	base, last := b.m.base, b.m.last()
	l := []uint64{0, 1, 2, api.MaxIndex - 1, api.MaxIndex, api.MaxIndex + 1, 1 << 63, greatest - 1, greatest}
	l = append(l, base-2, base-1, base, base+1, base+2, base+3, base+(last-base)/2)
	return append(l, last-2, last-1, last, last+1, last+2, last+64, last+1<<32)
}

// agrees tells whether all that asks says the same as the model.
func (b *both) agrees(what string) {
	b.t.Helper()
	if got := b.c.Base(); got != b.m.base {
		b.t.Errorf("%s: Base: %d, not %d", what, got, b.m.base)
	}
	if got := b.c.Last(); got != b.m.last() {
		b.t.Errorf("%s: Last: %d, not %d", what, got, b.m.last())
	}
	for _, i := range b.numbers() {
		b.tells(what, i)
	}
	own, _ := b.m.term(b.m.last())
	for _, term := range []uint64{0, own - 1, own, own + 1, greatest} {
		for _, last := range []uint64{0, b.m.base, b.m.last() - 1, b.m.last(), b.m.last() + 1, greatest} {
			if got, want := b.c.Newer(last, term), b.m.newer(last, term); got != want {
				b.t.Errorf("%s: Newer(%d, %d) of %d, %d: %v", what, last, term, b.m.last(), own, got)
			}
		}
	}
}

// tells tells whether both say the same of a number.
func (b *both) tells(what string, i uint64) {
	b.t.Helper()
	term, known := b.m.term(i)
	if got, ok := b.c.Term(i); got != term || ok != known {
		b.t.Errorf("%s: Term(%d): %d and %v, not %d and %v", what, i, got, ok, term, known)
	}
	x, there := b.m.get(i)
	if got, ok := b.c.Get(i); got != x || ok != there {
		b.t.Errorf("%s: Get(%d): %v and %v, not %v and %v", what, i, got, ok, x, there)
	}
	if got, want := b.c.From(i), b.m.from(i); !slices.Equal(got, want) {
		b.t.Errorf("%s: From(%d): %d items, not %d, or others", what, i, len(got), len(want))
	}
}

// P29.1

func TestNew(t *testing.T) {
	for _, term := range []uint64{0, 1, 5, api.MaxIndex, api.MaxIndex + 1, greatest} {
		for _, base := range bases() {
			b := start(t, base, term)
			b.agrees("a new one")
			if got, ok := b.c.Term(base); got != term || !ok {
				t.Errorf("Term(%d): %d, %v", base, got, ok)
			}
			if b.c.Base() != base || b.c.Last() != base || len(b.c.From(0)) != 0 || len(b.c.From(greatest)) != 0 {
				t.Errorf("a new one behind %d has %d to %d", base, b.c.Base(), b.c.Last())
			}
		}
		for _, base := range []uint64{api.MaxIndex + 1, api.MaxIndex + 2, 1<<62 + 1<<32, 1 << 63, greatest - 1, greatest} {
			if chain.New(base, term) != nil {
				t.Errorf("a chain behind %d", base)
			}
		}
	}
}

func TestTermGetFromOfSome(t *testing.T) {
	for _, base := range bases() {
		b := start(t, base, 3, items("a", 3, 3, 4, 9, greatest)...)
		b.agrees("one of five")
		if b.c.Base() != base || b.c.Last() != base+5 {
			t.Errorf("%d to %d, behind %d", b.c.Base(), b.c.Last(), base)
		}
		for k, want := range []uint64{3, 3, 3, 4, 9, greatest} {
			if got, ok := b.c.Term(base + uint64(k)); got != want || !ok {
				t.Errorf("Term(%d): %d, %v", base+uint64(k), got, ok)
			}
		}
		for _, i := range []uint64{base + 6, base - 1, base + 7, greatest, greatest - 1} {
			if got, ok := b.c.Term(i); got != 0 || ok {
				t.Errorf("Term(%d): %d, %v", i, got, ok)
			}
		}
		for _, i := range []uint64{base, base - 1, base + 6, greatest} {
			if got, ok := b.c.Get(i); got != (chain.Item{}) || ok {
				t.Errorf("Get(%d): %v, %v", i, got, ok)
			}
		}
		if got, ok := b.c.Get(base + 1); got != (chain.Item{Term: 3, Kind: -1, Text: "a0"}) || !ok {
			t.Errorf("the first one: %v, %v", got, ok)
		}
		if got, ok := b.c.Get(base + 5); got != (chain.Item{Term: greatest, Kind: 3, Text: "a4"}) || !ok {
			t.Errorf("the last one: %v, %v", got, ok)
		}
	}
}

func TestFromOfSome(t *testing.T) {
	for _, base := range bases() {
		b := start(t, base, 1, items("a", 1, 2, 2)...)
		all := items("a", 1, 2, 2)
		for i, want := range map[uint64][]chain.Item{0: all, base / 2: all, base: all, base + 1: all, base + 2: all[1:], base + 3: all[2:], base + 4: nil, base + 5: nil, greatest - 1: nil, greatest: nil} {
			if got := b.c.From(i); !slices.Equal(got, want) {
				t.Errorf("From(%d) behind %d: %v, not %v", i, base, got, want)
			}
		}
	}
}

func TestFromIsNobodys(t *testing.T) {
	b := start(t, 4, 1, items("a", 1, 2, 3, 4)...)
	b.cut(5)
	for _, i := range []uint64{0, 5, 6, 7, 8, 9, greatest} {
		for _, l := range [][]chain.Item{b.c.From(i), b.c.From(i)} {
			for k := range l {
				l[k] = chain.Item{Term: 77, Kind: 7, Text: "written over"}
			}
			l = append(l, chain.Item{Term: 78})
			b.agrees("what From told was written over")
		}
	}
	l := b.c.From(0)
	b.add(items("b", 5, 6)...)
	b.take(5, 1, items("c", 9))
	b.agrees("one that went on")
	if !slices.Equal(l, items("a", 1, 2, 3, 4)[1:]) {
		t.Errorf("what From told has changed: %v", l)
	}
}

func TestAdd(t *testing.T) {
	for _, base := range bases() {
		for _, term := range []uint64{0, 1, 5} {
			b := start(t, base, term)
			b.add()
			b.agrees("nothing was added")
			b.add(items("a", term)...)
			b.agrees("one was added")
			b.add([]chain.Item{}...)
			b.agrees("nothing was added to one")
			b.add(items("b", term, term+1, term+1, term+7)...)
			b.agrees("many were added")
			b.add(items("c", term+7)...)
			b.add(items("d", greatest, greatest)...)
			b.agrees("some of the greatest term were added")
		}
	}
}

func TestAddOfATermThatFalls(t *testing.T) {
	for _, base := range []uint64{0, 5, api.MaxIndex} {
		rows := []struct {
			has, add []uint64
			want     api.Errno
		}{
			{nil, []uint64{4}, api.OK},
			{nil, []uint64{3}, api.ErrArg},
			{nil, []uint64{0}, api.ErrArg},
			{nil, []uint64{5, 4}, api.ErrArg},
			{nil, []uint64{3, 5}, api.ErrArg},
			{nil, []uint64{4, 4, 4}, api.OK},
			{[]uint64{4}, []uint64{3}, api.ErrArg},
			{[]uint64{6}, []uint64{6}, api.OK},
			{[]uint64{6}, []uint64{5}, api.ErrArg},
			{[]uint64{6}, []uint64{4}, api.ErrArg},
			{[]uint64{5, 6}, []uint64{5, 7}, api.ErrArg},
			{[]uint64{5, 6}, []uint64{6, 7, 6}, api.ErrArg},
			{[]uint64{5, 6}, []uint64{6, 7, 6, 8}, api.ErrArg},
			{[]uint64{5, 6}, []uint64{7, 7, 8, 7}, api.ErrArg},
			{[]uint64{5, 6}, []uint64{7, 8, 8, greatest}, api.OK},
			{[]uint64{greatest}, []uint64{greatest}, api.OK},
			{[]uint64{greatest}, []uint64{greatest - 1}, api.ErrArg},
			{[]uint64{greatest}, []uint64{0}, api.ErrArg},
		}
		for _, r := range rows {
			b := start(t, base, 4, items("a", r.has...)...)
			if got := b.clone().c.Add(items("b", r.add...)...); got != r.want {
				t.Errorf("Add of %v behind %v: %d, not %d", r.add, r.has, int(got), int(r.want))
			}
			b.add(items("b", r.add...)...)
			b.agrees("one that was added to, or not")
		}
	}
}

// full tells what adding so many to so many answers.
func full(t *testing.T, has, more int, want api.Errno) {
	t.Helper()
	for _, base := range []uint64{0, 9, api.MaxIndex} {
		b := start(t, base, 1, many("a", has, 1)...)
		if got := b.clone().c.Add(many("b", more, 1)...); got != want {
			t.Errorf("%d more than %d: %d, not %d", more, has, int(got), int(want))
		}
		b.add(many("b", more, 1)...)
		b.agrees("one that is full, or nearly")
	}
}

func TestAddOfTooMany(t *testing.T) {
	full(t, 0, most-1, api.OK)
	full(t, 0, most, api.OK)
	full(t, 0, most+1, api.ErrFull)
	full(t, 0, 2*most, api.ErrFull)
	full(t, 1, most-1, api.OK)
	full(t, 1, most, api.ErrFull)
	full(t, most-1, 0, api.OK)
	full(t, most-1, 1, api.OK)
	full(t, most-1, 2, api.ErrFull)
	full(t, most, 0, api.OK)
	full(t, most, 1, api.ErrFull)
	full(t, most, most, api.ErrFull)
	full(t, most/2, most/2, api.OK)
	full(t, most/2, most/2+1, api.ErrFull)
	if api.MaxOps != most {
		t.Errorf("%d", api.MaxOps)
	}
}

func TestAddOfTooManyIsNamedFirst(t *testing.T) {
	b := start(t, 0, 5, many("a", most, 5)...)
	if got := b.c.Add(items("b", 1)...); got != api.ErrFull {
		t.Errorf("one more of a lesser term: %d", int(got))
	}
	if got := start(t, 0, 5).c.Add(many("b", most+1, 1)...); got != api.ErrFull {
		t.Errorf("too many of a lesser term: %d", int(got))
	}
	b.agrees("a full one")
}

// What was cut off takes no room.
func TestAddBehindWhatWasCutOff(t *testing.T) {
	b := start(t, 3, 1, many("a", most, 1)...)
	b.cut(3 + 1)
	b.add(items("b", 1, 1)...)
	b.agrees("one has room")
	b.add(items("b", 1)...)
	b.agrees("it is full again")
	b.cut(3 + 1 + most)
	b.add(many("c", most, 2)...)
	b.agrees("all of it had room")
	b.add(items("d", 2)...)
	b.agrees("it is full once more")
}

func TestAddKeepsWhatItIsGiven(t *testing.T) {
	b := start(t, 0, 1)
	l := append(make([]chain.Item, 0, 8), items("a", 1, 1, 2)...)
	spare := l[:8]
	spare[3] = chain.Item{Text: "spare"}
	b.add(l...)
	b.add(l[2:]...)
	if !slices.Equal(l, items("a", 1, 1, 2)) || spare[3] != (chain.Item{Text: "spare"}) {
		t.Errorf("what was handed in is changed: %v", spare)
	}
	for k := range spare {
		spare[k] = chain.Item{Term: 99, Text: "written over"}
	}
	b.agrees("what was handed in was written over")
	b.add(items("b", 2)...)
	if spare[4] != (chain.Item{Term: 99, Text: "written over"}) {
		t.Errorf("spare room was written into: %v", spare[4])
	}
	b.agrees("one that went on")
}

// P29.2

// takes tells what a Take of some terms leaves, by the names of what stands there then.
func takes(t *testing.T, has []uint64, prev, term uint64, l []uint64, last uint64, ok bool, left ...string) {
	t.Helper()
	b := start(t, 10, 2, items("a", has...)...)
	if got, did := b.clone().c.Take(prev, term, items("b", l...)); got != last || did != ok {
		t.Errorf("Take(%d, %d, %v) of %v: %d and %v", prev, term, l, has, got, did)
	}
	b.take(prev, term, items("b", l...))
	b.agrees("one that took some")
	var got []string
	for _, x := range b.c.From(0) {
		got = append(got, x.Text)
	}
	if !slices.Equal(got, left) {
		t.Errorf("Take(%d, %d, %v) of %v leaves %v, not %v", prev, term, l, has, got, left)
	}
}

func TestTakeOfSome(t *testing.T) {
	all := []string{"a0", "a1", "a2", "a3"}
	has := []uint64{3, 3, 4, 6} // at 11 to 14
	// prev above the last one
	takes(t, has, 15, 6, nil, 0, false, all...)
	takes(t, has, 15, 6, []uint64{7}, 0, false, all...)
	takes(t, has, 16, 0, []uint64{7}, 0, false, all...)
	takes(t, has, greatest, 6, []uint64{7}, 0, false, all...)
	takes(t, nil, 11, 2, []uint64{7}, 0, false)
	// prev the last one
	takes(t, has, 14, 6, nil, 14, true, all...)
	takes(t, has, 14, 6, []uint64{6, 7}, 16, true, "a0", "a1", "a2", "a3", "b0", "b1")
	takes(t, has, 14, 5, nil, 0, false, all...)
	takes(t, has, 14, 7, []uint64{7}, 0, false, all...)
	// prev the base
	takes(t, nil, 10, 2, nil, 10, true)
	takes(t, nil, 10, 3, nil, 0, false)
	takes(t, nil, 10, 2, []uint64{2, 3}, 12, true, "b0", "b1")
	takes(t, nil, 10, 1, []uint64{2, 3}, 0, false)
	takes(t, has, 10, 2, nil, 10, true, all...)
	takes(t, has, 10, 0, []uint64{9}, 0, false, all...)
	takes(t, has, 10, 2, []uint64{9}, 11, true, "b0")
	// prev an item
	takes(t, has, 12, 3, nil, 12, true, all...)
	takes(t, has, 12, 4, nil, 0, false, all...)
	takes(t, has, 12, 2, []uint64{9}, 0, false, all...)
	takes(t, has, 12, 3, []uint64{5}, 13, true, "a0", "a1", "b0")
	// prev below the base: of any term
	takes(t, has, 9, 0, nil, 10, true, all...)
	takes(t, has, 0, greatest, nil, 10, true, all...)
	takes(t, has, 8, 77, []uint64{9, 8}, 10, true, all...)
	takes(t, has, 8, 77, []uint64{9, 8, 3}, 11, true, all...)
	takes(t, has, 8, 77, []uint64{9, 8, 4}, 11, true, "b2")
	takes(t, has, 7, 77, []uint64{9}, 10, true, all...)
	takes(t, has, 7, 77, []uint64{0, 0, 0, 3, 3, 4, 6, 6}, 15, true, "a0", "a1", "a2", "a3", "b7")
	takes(t, nil, 7, 77, []uint64{0, 0, 0, 3, 3}, 12, true, "b3", "b4")
	// what is there already stays, also behind it
	takes(t, has, 10, 2, []uint64{3}, 11, true, all...)
	takes(t, has, 10, 2, []uint64{3, 3, 4, 6}, 14, true, all...)
	takes(t, has, 11, 3, []uint64{3, 4}, 13, true, all...)
	takes(t, has, 13, 4, []uint64{6}, 14, true, all...)
	takes(t, has, 13, 4, []uint64{6, 6, 8}, 16, true, "a0", "a1", "a2", "a3", "b1", "b2")
	// another one: the first, a middle one, the last one
	takes(t, has, 10, 2, []uint64{4, 4, 4, 6}, 14, true, "b0", "b1", "b2", "b3")
	takes(t, has, 10, 2, []uint64{3, 4, 4, 6}, 14, true, "a0", "b1", "b2", "b3")
	takes(t, has, 10, 2, []uint64{3, 4, 4}, 13, true, "a0", "b1", "b2")
	takes(t, has, 10, 2, []uint64{3, 3, 4, 7}, 14, true, "a0", "a1", "a2", "b3")
	takes(t, has, 10, 2, []uint64{3, 3, 4, 5}, 14, true, "a0", "a1", "a2", "b3")
	takes(t, has, 10, 2, []uint64{3, 3, 3}, 13, true, "a0", "a1", "b2")
	// terms that fall
	takes(t, has, 10, 2, []uint64{1}, 0, false, all...)
	takes(t, has, 10, 2, []uint64{3, 2}, 0, false, all...)
	takes(t, has, 10, 2, []uint64{4, 3}, 0, false, all...)
	takes(t, has, 10, 2, []uint64{3, 3, 4, 6, 5}, 0, false, all...)
	takes(t, has, 10, 2, []uint64{3, 4, 6, 5}, 0, false, all...)
	takes(t, has, 14, 6, []uint64{5}, 0, false, all...)
	takes(t, has, 8, 77, []uint64{9, 8, 1}, 0, false, all...)
	takes(t, has, 14, 6, []uint64{greatest, greatest - 1}, 0, false, all...)
	takes(t, has, 14, 6, []uint64{greatest, greatest}, 16, true, "a0", "a1", "a2", "a3", "b0", "b1")
}

// rising tells all lists of so many terms of which none falls.
func rising(n int, from, to uint64) [][]uint64 {
	if n == 0 {
		return [][]uint64{nil}
	}
	var out [][]uint64
	for term := from; term <= to; term++ {
		for _, l := range rising(n-1, term, to) {
			out = append(out, append([]uint64{term}, l...))
		}
	}
	return out
}

// lists tells all lists of up to so many terms below a number.
func lists(n int, terms uint64) [][]uint64 {
	out := [][]uint64{nil}
	if n == 0 {
		return out
	}
	for _, l := range lists(n-1, terms) {
		for term := range terms {
			out = append(out, append([]uint64{term}, l...))
		}
	}
	return out
}

func TestTakeOfAllSmallOnes(t *testing.T) {
	for _, base := range []uint64{0, 2} {
		for n := range 4 {
			for _, has := range rising(n, 1, 3) {
				b := start(t, base, 1, items("a", has...)...)
				for prev := range base + 5 {
					for term := range uint64(4) {
						for _, l := range lists(3, 4) {
							took := b.clone()
							took.take(prev, term, items("b", l...))
							if !slices.Equal(took.c.From(0), took.m.from(0)) || took.c.Base() != base {
								t.Fatalf("Take(%d, %d, %v) of %v behind %d leaves %v", prev, term, l, has, base, took.c.From(0))
							}
						}
					}
				}
			}
		}
	}
}

func TestTakeOfTooMany(t *testing.T) {
	for _, base := range []uint64{0, 9, api.MaxIndex} {
		b := start(t, base, 1, many("a", most-1, 1)...)
		last := base + most - 1
		if b.take(last, 1, items("b", 1, 1)) || b.take(last-1, 1, items("b", 1, 1, 1)) {
			t.Error("there was room")
		}
		b.agrees("nothing was taken")
		if !b.take(last-1, 1, items("b", 1, 1)) || b.take(last+1, 1, items("b", 1)) {
			t.Error("there was no room, or more than that")
		}
		b.agrees("a full one")
		if !b.take(base, 1, many("b", most, 1)) || b.take(base, 1, many("b", most+1, 1)) {
			t.Error("what is there already, and one more")
		}
		b.agrees("a full one")
		if b.take(last, 1, items("b", 2, 2)) || !b.take(last, 1, items("b", 2)) {
			t.Error("another one instead of the last one")
		}
		b.agrees("the last one is another one")
		if b.take(base, 1, many("c", most+1, 3)) || !b.take(base, 1, many("c", most, 3)) {
			t.Error("all are others")
		}
		b.agrees("all are others")
		b.take(base+1, 3, items("d", 4))
		b.agrees("one that had many")
	}
}

// What does not stand behind the base takes no room.
func TestTakeOfManyBelowTheBase(t *testing.T) {
	const below = 2 * most
	for _, n := range []int{below - 1, below, below + 1, below + most, below + most + 1} {
		b := start(t, below, 1)
		b.take(0, 5, many("b", n, 1))
		b.agrees("one that took many below the base")
	}
	b := start(t, below, 1, many("a", most, 1)...)
	b.take(1, 0, many("b", below, 1))
	b.agrees("a full one")
	b.take(1, 0, many("b", below+most-1, 1))
	b.agrees("a full one that took all once more")
}

func TestTakeAgain(t *testing.T) {
	sender := items("a", 1, 1, 2, 4, 4)
	for prev := range 6 {
		for to := prev; to <= 5; to++ {
			for back := range 6 {
				for end := back; end <= 5; end++ {
					b := start(t, 0, 0)
					b.take(0, 0, sender[:3])
					for range 2 {
						b.take(uint64(prev), termAt(sender, prev), sender[prev:to])
						b.agrees("a piece came")
						b.take(uint64(back), termAt(sender, back), sender[back:end])
						b.agrees("another piece came")
					}
				}
			}
		}
	}
}

// termAt tells the term of the item n, from 1 on; 0 of 0.
func termAt(l []chain.Item, n int) uint64 {
	if n == 0 {
		return 0
	}
	return l[n-1].Term
}

func TestTakeKeepsWhatItIsGiven(t *testing.T) {
	b := start(t, 0, 1, items("a", 1, 1, 5, 5)...)
	l := append(make([]chain.Item, 0, 8), items("b", 1, 2, 2)...)
	spare := l[:8]
	spare[3] = chain.Item{Text: "spare"}
	b.take(1, 1, l)
	if !slices.Equal(l, items("b", 1, 2, 2)) || spare[3] != (chain.Item{Text: "spare"}) {
		t.Errorf("what was handed in is changed: %v", spare)
	}
	for k := range spare {
		spare[k] = chain.Item{Term: 99, Text: "written over"}
	}
	b.agrees("what was handed in was written over")
	b.add(items("c", 3)...)
	b.agrees("one that went on")
	if spare[3] != (chain.Item{Term: 99, Text: "written over"}) {
		t.Errorf("spare room was written into: %v", spare[3])
	}
}

// P29.3

func TestCut(t *testing.T) {
	for _, base := range bases() {
		b := start(t, base, 2, items("a", 3, 3, 5, 8)...)
		for _, at := range []uint64{base + 5, base + 6, base + 64, 1 << 63, greatest - 1, greatest} {
			b.cut(at)
			if got := b.c.Cut(at); got != api.ErrRange {
				t.Errorf("Cut(%d): %d", at, int(got))
			}
		}
		b.agrees("one that was not cut")
		for _, at := range []uint64{0, base / 2, base - min(base, 1), base} {
			b.cut(at)
			if got := b.c.Cut(at); got != api.OK {
				t.Errorf("Cut(%d): %d", at, int(got))
			}
			b.agrees("one of which nothing was cut off")
		}
		for k, want := range []uint64{2, 3, 3, 5, 8} {
			cut := b.clone()
			cut.cut(base + uint64(k))
			cut.agrees("one that was cut")
			if got, ok := cut.c.Term(base + uint64(k)); got != want || !ok || cut.c.Base() != base+uint64(k) || cut.c.Last() != base+4 {
				t.Errorf("Cut(%d): its term is %d, %v; it has %d to %d", base+uint64(k), got, ok, cut.c.Base(), cut.c.Last())
			}
			cut.cut(base)
			cut.agrees("one that was cut once more, below")
			cut.add(items("b", 8, 9)...)
			cut.add(items("c", 7)...)
			cut.agrees("one that went on")
			cut.cut(base + 6)
			cut.add(items("c", 8)...)
			cut.agrees("one of which all was cut off")
		}
	}
}

// A base that was cut to may be above all that New takes.
func TestCutAboveAllBases(t *testing.T) {
	b := start(t, api.MaxIndex, 1, items("a", 1, 1, 2)...)
	b.cut(api.MaxIndex + 2)
	b.agrees("one that was cut")
	b.take(api.MaxIndex+2, 1, items("b", 3))
	b.take(api.MaxIndex, 9, items("c", 9, 9, 3, 4))
	b.agrees("one that took some")
	b.cut(api.MaxIndex + 4)
	b.agrees("one of which all was cut off")
}

func TestNewer(t *testing.T) {
	rows := []struct {
		last, term uint64
		want       bool
	}{
		{13, 5, true},
		{12, 5, false},
		{14, 5, true},
		{0, 5, false},
		{greatest, 5, true},
		{13, 6, true},
		{12, 6, true},
		{0, 6, true},
		{0, greatest, true},
		{13, 4, false},
		{14, 4, false},
		{greatest, 4, false},
		{greatest, 0, false},
		{0, 0, false},
	}
	b := start(t, 10, 1, items("a", 2, 5, 5)...)
	empty := start(t, 13, 5)
	cut := b.clone()
	cut.cut(13)
	for _, r := range rows {
		for what, c := range map[string]*chain.Chain{"with items": b.c, "without items": empty.c, "cut": cut.c} {
			if got := c.Newer(r.last, r.term); got != r.want {
				t.Errorf("Newer(%d, %d) of one %s: %v", r.last, r.term, what, got)
			}
		}
	}
	least := start(t, 0, 0)
	top := start(t, api.MaxIndex, greatest)
	if !least.c.Newer(0, 0) || !least.c.Newer(1, 0) || !least.c.Newer(0, 1) {
		t.Error("all are as new as one without items")
	}
	if !top.c.Newer(api.MaxIndex, greatest) || top.c.Newer(api.MaxIndex-1, greatest) || top.c.Newer(greatest, greatest-1) {
		t.Error("one of the greatest term")
	}
}

func TestClone(t *testing.T) {
	for _, base := range bases() {
		b := start(t, base, 2, items("a", 3, 3, 5)...)
		x := b.clone()
		x.agrees("a clone")
		x.add(items("b", 6, 6)...)
		b.agrees("its clone went on")
		b.add(items("c", 5, 7)...)
		x.agrees("what it was cloned of went on")
		y := x.clone()
		y.take(base+1, 3, items("d", 9))
		x.take(base, 2, items("e", 4, 4))
		b.cut(base + 2)
		z := b.clone()
		z.cut(base + 4)
		z.add(items("f", 8)...)
		b.add(items("g", 7, 8)...)
		for _, c := range []*both{b, x, y, z, z.clone()} {
			c.agrees("each goes its own way")
		}
	}
}

// Nil is as one without items, to which nothing can be added.
func TestNil(t *testing.T) {
	var c *chain.Chain
	m := &both{t, c, modelOf(0, 0)}
	for range 2 {
		m.agrees("nil")
		for _, e := range []api.Errno{c.Add(), c.Add(items("a", 1)...), c.Add(many("a", most+1, 1)...), c.Cut(0), c.Cut(1), c.Cut(greatest)} {
			if e != api.ErrNil {
				t.Errorf("%d", int(e))
			}
		}
		if c.Clone() != nil {
			t.Error("a clone of nil")
		}
		if n, ok := c.Take(0, 0, nil); n != 0 || !ok {
			t.Errorf("Take of nothing: %d, %v", n, ok)
		}
		for _, prev := range []uint64{0, 1, greatest} {
			for _, term := range []uint64{0, 1} {
				if n, ok := c.Take(prev, term, items("a", 1)); n != 0 || ok {
					t.Errorf("Take(%d, %d): %d, %v", prev, term, n, ok)
				}
			}
		}
		if n, ok := c.Take(0, 1, nil); n != 0 || ok {
			t.Errorf("Take of nothing, of another term: %d, %v", n, ok)
		}
		if n, ok := c.Take(1, 0, nil); n != 0 || ok {
			t.Errorf("Take of nothing, behind the last one: %d, %v", n, ok)
		}
	}
}

// One that no call made is as a new one behind 0, of the term 0.
func TestZero(t *testing.T) {
	b := &both{t, &chain.Chain{}, modelOf(0, 0)}
	b.agrees("one that no call made")
	x := b.clone()
	if x.c == nil {
		t.Fatal("a clone of one that no call made is nil")
	}
	b.add()
	b.cut(0)
	b.cut(1)
	b.take(0, 1, items("a", 1))
	b.take(1, 0, items("a", 1))
	b.take(0, 0, nil)
	b.agrees("nothing was done to one that no call made")
	b.add(items("a", 0, 1, 2)...)
	b.agrees("one that no call made went on")
	b.cut(2)
	b.agrees("one that no call made was cut")
	x.agrees("a clone of one that no call made")
	x.take(0, 0, items("b", 3))
	x.agrees("a clone of one that no call made went on")
}

// drawn does a drawn act to one.
func drawn(r *rand.Rand, b *both, name string) *both {
	base, size := b.m.base, len(b.m.at)
	near := func() uint64 { return base + uint64(r.Intn(size+4)) - 2 }
	own, _ := b.m.term(b.m.last())
	switch r.Intn(8) {
	case 0, 1:
		var terms []uint64
		for range r.Intn(4) {
			own += uint64(r.Intn(3))
			terms = append(terms, own-uint64(r.Intn(12)/11))
		}
		b.add(items(name, terms...)...)
	case 2:
		b.cut(near())
	case 3:
		if r.Intn(2) == 0 {
			b.clone().add(items("other", own)...)
			return b.clone()
		}
	default:
		prev := near()
		term, _ := b.m.term(prev)
		var terms []uint64
		for k := range uint64(r.Intn(7)) {
			if there, ok := b.m.term(prev + 1 + k); ok && r.Intn(8) > 0 {
				own = there
			} else {
				own += uint64(r.Intn(3)) - uint64(r.Intn(20)/19)
			}
			terms = append(terms, own)
		}
		b.take(prev, term+uint64(r.Intn(12)/11), items(name, terms...))
	}
	return b
}

func TestDrawnActs(t *testing.T) {
	r := rand.New(rand.NewSource(29))
	for round := range 300 {
		base := bases()[r.Intn(len(bases()))]
		b := start(t, base, 20+uint64(r.Intn(3)))
		for step := range 60 {
			b = drawn(r, b, strconv.Itoa(step)+"/")
			b.agrees("round " + strconv.Itoa(round) + ", step " + strconv.Itoa(step))
			if t.Failed() {
				return
			}
			rises(t, b.c)
		}
	}
}

// P29.4

// rises tells whether the terms of a chain never fall.
func rises(t *testing.T, c *chain.Chain) {
	t.Helper()
	for i := c.Base(); i < c.Last(); i++ {
		a, known := c.Term(i)
		b, there := c.Term(i + 1)
		if !known || !there || a > b {
			t.Fatalf("at %d the term %d, and then %d", i, a, b)
		}
	}
}

// piece is some of a sender's items.
type piece struct {
	prev, term uint64
	l          []chain.Item
}

// pieces are all of a sender's, behind 0 of the term 0.
func pieces(sender []chain.Item) []piece {
	var out []piece
	for prev := range len(sender) + 1 {
		for to := prev; to <= len(sender); to++ {
			out = append(out, piece{uint64(prev), termAt(sender, prev), sender[prev:to]})
		}
	}
	return out
}

// receiver is one that takes pieces of one sender's, and up to which number it knows its own to be the same.
type receiver struct {
	c    *chain.Chain
	upto uint64
}

func (r *receiver) take(t *testing.T, p piece) {
	t.Helper()
	n, ok := r.c.Take(p.prev, p.term, p.l)
	if ok && n < p.prev+uint64(len(p.l)) {
		t.Fatalf("%d, behind %d and %d items", n, p.prev, len(p.l))
	}
	if ok && r.c.Last() < n {
		t.Fatalf("%d is known, but %d is the last one", n, r.c.Last())
	}
	r.upto = max(r.upto, n)
}

// matches tells whether two are the same as far as both know to be, wherever both have it still.
func matches(t *testing.T, a, b *receiver) {
	t.Helper()
	for i := max(a.c.Base(), b.c.Base()) + 1; i <= min(a.upto, b.upto); i++ {
		x, has := a.c.Get(i)
		y, there := b.c.Get(i)
		if !has || !there || x != y {
			t.Fatalf("at %d: %v and %v", i, x, y)
		}
	}
}

func TestMatchOfEachOrder(t *testing.T) {
	sender := items("a", 1, 1, 2, 4, 4)
	whole := &receiver{chain.New(0, 0), 0}
	whole.take(t, piece{0, 0, sender})
	all := pieces(sender)
	var ends []*receiver
	for _, p := range all {
		for _, q := range all {
			for _, x := range all {
				r := &receiver{chain.New(0, 0), 0}
				for _, y := range []piece{p, q, x, p} {
					r.take(t, y)
					matches(t, r, whole)
					if r.c.Last() != r.upto {
						t.Fatalf("it has %d, and knows %d", r.c.Last(), r.upto)
					}
				}
				rises(t, r.c)
				ends = append(ends, r)
			}
		}
	}
	for k, r := range ends {
		matches(t, r, ends[len(ends)-1-k])
	}
}

// strays is one that has the first ones of a sender's, and behind them some that the sender has not.
func strays(r *rand.Rand, sender []chain.Item) *receiver {
	c := chain.New(0, 0)
	n := r.Intn(len(sender))
	c.Add(sender[:n]...)
	term := termAt(sender, n) + 1
	for k := range r.Intn(6) {
		term += 2 * uint64(r.Intn(2))
		c.Add(chain.Item{Term: term, Text: "stray" + strconv.Itoa(k)})
	}
	return &receiver{c, 0}
}

// The terms of the sender are even, and those of strays odd.
func TestMatchOfStrays(t *testing.T) {
	r := rand.New(rand.NewSource(30))
	for range 3000 {
		var terms []uint64
		term := uint64(2)
		for range 3 + r.Intn(8) {
			term += 2 * uint64(r.Intn(2))
			terms = append(terms, term)
		}
		sender := items("a", terms...)
		all := pieces(sender)
		whole := &receiver{chain.New(0, 0), 0}
		whole.take(t, piece{0, 0, sender})
		a, b := strays(r, sender), strays(r, sender)
		for range 12 {
			a.take(t, all[r.Intn(len(all))])
			b.take(t, all[r.Intn(len(all))])
			if r.Intn(6) == 0 {
				a.c.Cut(uint64(r.Intn(1 + int(a.upto))))
			}
			for _, x := range []*receiver{a, b} {
				matches(t, x, whole)
				rises(t, x.c)
			}
			matches(t, a, b)
		}
		for _, x := range []*receiver{a, b} {
			x.take(t, piece{0, 0, sender})
			matches(t, x, whole)
			if x.upto != uint64(len(sender)) {
				t.Fatalf("%d of %d", x.upto, len(sender))
			}
		}
	}
}
