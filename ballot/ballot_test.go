package ballot_test

import (
	"math"
	"math/rand"
	"slices"
	"strings"
	"testing"

	"keelson/api"
	"keelson/ballot"
	"keelson/merge"
)

const greatest = math.MaxUint64

// nowhere is what is no node of so many.
func nowhere(nodes int) []int {
	return []int{math.MinInt, math.MinInt + 1, -1 << 32, -64, -nodes, -2, -1, nodes, nodes + 1, api.MaxNodes, api.MaxNodes + 1, 63, 64, 64 + nodes - 1, 1 << 32, 1<<32 + 1, math.MaxInt - 1, math.MaxInt}
}

// writes is a write of the client 1's request req, of the block that the request numbers.
func writes(index, term, start, req uint64, looks ...api.Look) api.Entry {
	data := strings.Repeat(string(rune('a'+req%26)), api.BlockLen)
	return api.Entry{Index: index, Term: term, Start: start, Kind: api.KindWrite, Client: 1, Req: req, Span: api.Span{From: uint32(req % 16), Count: 1}, Data: data, Behind: looks}
}

func noop(index, term, start uint64, looks ...api.Look) api.Entry {
	return api.Entry{Index: index, Term: term, Start: start, Kind: api.KindNoop, Behind: looks}
}

func lookOf(e api.Entry) api.Look {
	return api.Look{Client: e.Client, Req: e.Req, Span: e.Span}
}

func same(a, b api.Entry) bool {
	return a.Index == b.Index && a.Term == b.Term && a.Start == b.Start && a.Kind == b.Kind && lookOf(a) == lookOf(b) && a.Data == b.Data && slices.Equal(a.Behind, b.Behind)
}

func sameLists(a, b []api.Entry) bool {
	return slices.EqualFunc(a, b, same)
}

func copied(l []api.Entry) []api.Entry {
	out := slices.Clone(l)
	for k := range out {
		out[k].Behind = slices.Clone(out[k].Behind)
	}
	return out
}

// over writes over entries, over what they look behind at, and over the spare room of both.
func over(l []api.Entry) {
	for k := range l {
		looks := l[k].Behind[:cap(l[k].Behind)]
		for j := range looks {
			looks[j] = api.Look{Client: 7, Req: 777}
		}
	}
	l = l[:cap(l)]
	for k := range l {
		l[k] = writes(1, greatest, 1, 7777)
	}
}

func start(t *testing.T, nodes, self int, term, base uint64, own []api.Entry) *ballot.Ballot {
	t.Helper()
	b := ballot.New(nodes, self, term, base, own)
	if b == nil {
		t.Fatalf("no ballot of %d nodes, %d being self", nodes, self)
	}
	return b
}

func grant(t *testing.T, b *ballot.Ballot, node int, l []api.Entry) {
	t.Helper()
	if e := b.Grant(node, l); e != api.OK {
		t.Errorf("Grant(%d): %d", node, int(e))
	}
}

// each hands each number of nodes, each node being self, to do.
func each(do func(nodes, self int)) {
	for nodes := 1; nodes <= api.MaxNodes; nodes++ {
		for self := range nodes {
			do(nodes, self)
		}
	}
}

// sets hands each set of so many nodes to do, bit by bit.
func sets(nodes int, do func(set uint64, in []int)) {
	for set := range uint64(1) << nodes {
		var in []int
		for node := range nodes {
			if set>>node&1 == 1 {
				in = append(in, node)
			}
		}
		do(set, in)
	}
}

// wins is how many votes win, of so many nodes.
func wins(nodes int) int {
	return map[int]int{1: 1, 2: 2, 3: 2, 4: 3, 5: 3, 6: 4, 7: 4}[nodes]
}

// some tells a list such as a node may have, and others, near base.
func some(g *rand.Rand, base uint64) []api.Entry {
	var l []api.Entry
	for range g.Intn(7) {
		index := base + uint64(g.Intn(9)) - 1
		e := writes(index, uint64(g.Intn(4)), base+uint64(g.Intn(12)), uint64(g.Intn(6)))
		if g.Intn(3) == 0 {
			e = noop(e.Index, e.Term, e.Start)
		}
		for range g.Intn(4) {
			e.Behind = append(e.Behind, []api.Look{{}, lookOf(writes(1, 1, 1, uint64(g.Intn(6))))}[g.Intn(2)])
		}
		l = append(l, e)
	}
	return l
}

// P26.1: New.

func TestNew(t *testing.T) {
	for nodes, good := range map[int]bool{-1: false, 0: false, 1: true, 2: true, 3: true, 4: true, 5: true, 6: true, api.MaxNodes: true, api.MaxNodes + 1: false, 64: false, 1<<8 + 3: false, 1<<32 + 3: false, math.MinInt: false, math.MaxInt: false} {
		for _, self := range append(nowhere(max(0, min(nodes, 8))), 0, 1, 2, 3, 4, 5, 6) {
			want := good && self >= 0 && self < nodes
			if got := ballot.New(nodes, self, 3, 4, nil) != nil; got != want {
				t.Errorf("New(%d, %d): %v", nodes, self, got)
			}
		}
	}
}

func TestTermAndBase(t *testing.T) {
	numbers := []uint64{0, 1, 7, 1 << 32, api.MaxIndex, api.MaxIndex + 1, 1 << 63, greatest}
	for _, term := range numbers {
		for _, base := range numbers {
			b := start(t, 3, 1, term, base, []api.Entry{writes(5, 4, 3, 2)})
			for range 2 {
				if b.Term() != term || b.Base() != base {
					t.Errorf("%d and %d, not %d and %d", b.Term(), b.Base(), term, base)
				}
				b.Grant(0, []api.Entry{writes(9, 8, 7, 6)})
				b.Merge(3)
			}
		}
	}
}

// P26.1: Grant, and Voters behind each.

func TestGrant(t *testing.T) {
	b := start(t, 3, 1, 5, 0, nil)
	for _, c := range []struct {
		what string
		node int
		want api.Errno
		set  uint64
	}{
		{"no node, below", -1, api.ErrArg, 2},
		{"no node, above", 3, api.ErrArg, 2},
		{"self", 1, api.ErrThere, 2},
		{"another one", 2, api.OK, 6},
		{"it again", 2, api.ErrThere, 6},
		{"self again", 1, api.ErrThere, 6},
		{"no node again", 64, api.ErrArg, 6},
		{"the last one", 0, api.OK, 7},
		{"the last one again", 0, api.ErrThere, 7},
		{"no node at all", math.MaxInt, api.ErrArg, 7},
	} {
		if got := b.Grant(c.node, nil); got != c.want || b.Voters() != c.set {
			t.Errorf("%s: %d, and %b", c.what, int(got), b.Voters())
		}
	}
}

func TestGrantOfNobody(t *testing.T) {
	each(func(nodes, self int) {
		b := start(t, nodes, self, 5, 0, nil)
		for node := range nodes {
			for _, no := range nowhere(nodes) {
				if no >= 0 && no < nodes {
					continue
				}
				if got := b.Grant(no, []api.Entry{writes(1, 1, 1, 1)}); got != api.ErrArg {
					t.Errorf("Grant(%d) of %d nodes: %d", no, nodes, int(got))
				}
			}
			if got := b.Grant(self, []api.Entry{writes(1, 1, 1, 1)}); got != api.ErrThere {
				t.Errorf("Grant of self: %d", int(got))
			}
			set := uint64(1)<<(node+1) - 1 | 1<<self
			if node != self {
				grant(t, b, node, nil)
			}
			if got := b.Voters(); got != set {
				t.Errorf("%b, not %b", got, set)
			}
		}
		if l := b.Merge(3); len(l) != 0 {
			t.Errorf("a list that was refused is gone on with: %v", l)
		}
	})
}

// P26.1: Won.

func TestWonBySoMany(t *testing.T) {
	each(func(nodes, self int) {
		sets(nodes, func(set uint64, in []int) {
			if !slices.Contains(in, self) {
				return
			}
			b := start(t, nodes, self, 5, 0, []api.Entry{writes(1, 1, 1, 1)})
			votes := 1
			for k := 0; ; k++ {
				if got, want := b.Won(), votes >= wins(nodes); got != want {
					t.Errorf("%d of %d nodes: %v", votes, nodes, got)
				}
				if got, want := len(b.Merge(1)) != 0, votes >= wins(nodes); got != want {
					t.Errorf("%d of %d nodes: merged %v", votes, nodes, got)
				}
				if k == len(in) {
					break
				}
				if in[k] != self {
					grant(t, b, in[k], nil)
					votes++
				}
				b.Grant(in[k], nil) // who votes twice has one vote
				b.Grant(nodes, nil)
			}
			if got := b.Voters(); got != set {
				t.Errorf("%b, not %b", got, set)
			}
		})
	})
}

func TestExample(t *testing.T) {
	b := start(t, 3, 0, 2, 0, nil)
	if b.Won() {
		t.Error("one of three")
	}
	grant(t, b, 2, nil)
	if !b.Won() {
		t.Error("two of three")
	}
}

func TestAlone(t *testing.T) {
	own := []api.Entry{writes(3, 1, 1, 3)}
	b := start(t, 1, 0, 2, 1, own)
	if !b.Won() || b.Voters() != 1 {
		t.Errorf("%v, %b", b.Won(), b.Voters())
	}
	want := []api.Entry{noop(2, 2, 4), writes(3, 2, 4, 3, api.Look{})}
	if got := b.Merge(5); !sameLists(got, want) {
		t.Errorf("%v", got)
	}
	if b.Grant(0, nil) != api.ErrThere || b.Grant(1, nil) != api.ErrArg {
		t.Error("one more vote")
	}
}

// P26.2: Merge.

func TestMerge(t *testing.T) {
	own := []api.Entry{writes(6, 2, 1, 6), writes(8, 3, 8, 8)}
	theirs := []api.Entry{writes(5, 2, 1, 5), writes(6, 4, 6, 16)}
	third := []api.Entry{writes(7, 4, 6, 7)}
	b := start(t, 5, 2, 9, 4, own)
	if l := b.Merge(2); len(l) != 0 {
		t.Errorf("one of five: %v", l)
	}
	grant(t, b, 4, theirs)
	if l := b.Merge(2); len(l) != 0 {
		t.Errorf("two of five: %v", l)
	}
	grant(t, b, 0, third)
	five, six, seven := writes(5, 9, 8, 5), writes(6, 9, 8, 16), writes(7, 9, 8, 7)
	six.Behind = []api.Look{lookOf(five)}
	seven.Behind = []api.Look{lookOf(six), lookOf(five)}
	if got, want := b.Merge(2), []api.Entry{five, six, seven}; !sameLists(got, want) { // what is at 8 is void
		t.Errorf("three of five: %v", got)
	}
}

// Merge looks behind as far as it is told to, however little or much that is.
func TestMergeOfEachN(t *testing.T) {
	own := []api.Entry{writes(1, 1, 1, 1), writes(2, 1, 1, 2), writes(4, 1, 1, 4)}
	b := start(t, 3, 0, 2, 0, own[:2])
	grant(t, b, 1, own[2:])
	looks := []api.Look{{}, lookOf(own[1]), lookOf(own[0])}
	for n, most := range map[int]int{math.MinInt: 0, -1: 0, 0: 0, 1: 1, 2: 2, 3: 3, 4: 3, api.MaxBehind: 3, api.MaxBehind + 1: 3, math.MaxInt: 3} {
		got := b.Merge(n)
		if len(got) != 4 || !slices.Equal(got[3].Behind, looks[:most]) || !sameLists(got, merge.Merge(0, 2, n, own)) {
			t.Errorf("%d: %v", n, got)
		}
	}
}

// One that is not won tells nothing, whatever its voters have, and whatever it is asked.
func TestMergeOfOneThatIsNotWon(t *testing.T) {
	each(func(nodes, self int) {
		b := start(t, nodes, self, 5, 0, []api.Entry{writes(1, 1, 1, 1)})
		votes := 1
		for node := range nodes {
			for _, n := range []int{-1, 0, 1, 64} {
				if l := b.Merge(n); (len(l) == 1) != (votes >= wins(nodes)) || (len(l) == 0) != (votes < wins(nodes)) {
					t.Errorf("%d of %d nodes: %v", votes, nodes, l)
				}
			}
			if node != self {
				grant(t, b, node, []api.Entry{writes(1, 1, 1, 1)})
				votes++
			}
		}
	})
}

// Lists of nothing are as if their nodes had none, and have voted all the same.
func TestMergeOfNothing(t *testing.T) {
	one := []api.Entry{writes(4, 1, 1, 4)}
	for _, c := range []struct {
		what   string
		own, l []api.Entry
		want   int
	}{
		{"nil and nil", nil, nil, 0},
		{"nil and empty", nil, []api.Entry{}, 0},
		{"empty and nil", []api.Entry{}, nil, 0},
		{"empty, with spare room", one[:0], one[:0], 0},
		{"own alone", one, nil, 1},
		{"the other one's alone", nil, one, 1},
		{"the same", one, one, 1},
	} {
		b := start(t, 3, 1, 2, 3, c.own)
		grant(t, b, 2, c.l)
		if l := b.Merge(4); !b.Won() || len(l) != c.want {
			t.Errorf("%s: %v", c.what, l)
		}
	}
}

// Two unlike entries of one index and one term: the first node's is gone on with, whoever voted first.
func TestMergeInTheOrderOfTheNodes(t *testing.T) {
	g := rand.New(rand.NewSource(262))
	each(func(nodes, self int) {
		sets(nodes, func(set uint64, in []int) {
			if !slices.Contains(in, self) || len(in) < wins(nodes) {
				return
			}
			b := start(t, nodes, self, 5, 0, []api.Entry{writes(1, 1, 1, uint64(self))})
			for _, k := range g.Perm(len(in)) {
				if in[k] != self {
					grant(t, b, in[k], []api.Entry{writes(1, 1, 1, uint64(in[k]))})
				}
			}
			if l := b.Merge(3); len(l) != 1 || l[0].Req != uint64(in[0]) || l[0].Term != 5 {
				t.Errorf("%v of %d nodes, %d being self: %v", in, nodes, self, l)
			}
		})
	})
}

// What Merge tells is merge's, of what the voters have in the order of the nodes.
func TestMergeAsTold(t *testing.T) {
	g := rand.New(rand.NewSource(261))
	for range 1500 {
		nodes := 1 + g.Intn(api.MaxNodes)
		base := []uint64{0, 1, 50, greatest - 5, greatest}[g.Intn(5)]
		term := []uint64{0, 1, 5, greatest}[g.Intn(4)]
		has := make([][]api.Entry, nodes)
		for node := range has {
			has[node] = some(g, base)
		}
		order := g.Perm(nodes)
		b := start(t, nodes, order[0], term, base, has[order[0]])
		for votes := 1; ; votes++ {
			var all [][]api.Entry
			for node := range nodes {
				if slices.Contains(order[:votes], node) {
					all = append(all, has[node])
				}
			}
			n := g.Intn(7) - 1
			var want []api.Entry
			if votes >= wins(nodes) {
				want = merge.Merge(base, term, n, all...)
			}
			if got := b.Merge(n); !sameLists(got, want) {
				t.Fatalf("%d of %d nodes: %v, not %v", votes, nodes, got, want)
			}
			if votes == nodes {
				break
			}
			grant(t, b, order[votes], has[order[votes]])
		}
	}
}

// What was handed in is not kept: whoever wrote it may write over it.
func TestWhatIsHandedInIsWrittenOver(t *testing.T) {
	list := func(k uint64) []api.Entry {
		l := make([]api.Entry, 0, 5)
		looks := make([]api.Look, 1, 4)
		looks[0] = lookOf(writes(1, 1, 1, 10*k+1))
		return append(l, writes(2*k+1, 1, 1, 10*k+1), writes(2*k+2, 1, 1, 10*k+2, looks...))
	}
	own, theirs, late := list(0), list(1), list(2)
	b := start(t, 5, 4, 2, 0, own)
	over(own)
	grant(t, b, 0, theirs)
	over(theirs)
	grant(t, b, 3, late)
	want := merge.Merge(0, 2, 3, list(1), list(2), list(0))
	if len(want) != 6 {
		t.Fatal(want)
	}
	over(late)
	if got := b.Merge(3); !sameLists(got, want) {
		t.Errorf("%v, not %v", got, want)
	}
}

// What an entry that is handed in looks behind at decides what is void: it is kept as it was.
func TestLooksThatAreWrittenOver(t *testing.T) {
	old := writes(1, 1, 1, 1)
	later := noop(2, 3, 2, lookOf(old)) // says that old is at 1
	for _, self := range []int{0, 1} {
		lists := [][]api.Entry{copied([]api.Entry{old}), copied([]api.Entry{later})}
		b := start(t, 2, self, 4, 0, lists[self])
		grant(t, b, 1-self, lists[1-self])
		lists[1][0].Behind[0] = api.Look{} // says that nothing is at 1: old would be void
		if got := b.Merge(1); len(got) != 2 || got[0].Req != 1 {
			t.Errorf("%v", got)
		}
	}
}

// What is handed in is not changed, its spare room neither.
func TestWhatIsHandedInStays(t *testing.T) {
	g := rand.New(rand.NewSource(263))
	for range 300 {
		lists := [][]api.Entry{some(g, 1), some(g, 1), some(g, 1)}
		var before [][]api.Entry
		for k, l := range lists {
			lists[k] = append(slices.Grow(l, 3), writes(9, 9, 9, 9))[:len(l)]
			before = append(before, copied(lists[k][:len(l)+1]))
		}
		b := start(t, 3, 1, 7, 0, lists[1])
		grant(t, b, 0, lists[0])
		grant(t, b, 2, lists[2])
		over(b.Merge(3))
		for k, l := range lists {
			if !sameLists(l[:len(l)+1], before[k]) {
				t.Errorf("%v came to be %v", before[k], l[:len(l)+1])
			}
		}
	}
}

// What Merge told is written over, and it is asked once more.
func TestWhatIsToldIsItsOwn(t *testing.T) {
	g := rand.New(rand.NewSource(264))
	for range 300 {
		b := start(t, 3, 0, 7, 0, some(g, 1))
		grant(t, b, 2, some(g, 1))
		want := copied(b.Merge(3))
		one, two := b.Merge(3), b.Merge(3)
		over(one)
		if !sameLists(two, want) {
			t.Errorf("two answers share a list: %v, not %v", two, want)
		}
		over(two)
		if got := b.Merge(3); !sameLists(got, want) {
			t.Errorf("once more: %v, not %v", got, want)
		}
	}
}

// Of one that is nil, or that no call made.

func nothing(t *testing.T, b *ballot.Ballot, want api.Errno) {
	t.Helper()
	for _, node := range append(nowhere(1), 0) {
		for _, l := range [][]api.Entry{nil, {}, {writes(1, 1, 1, 1)}} {
			if e := b.Grant(node, l); e != want {
				t.Errorf("Grant(%d): %d", node, int(e))
			}
		}
	}
	if b.Won() || b.Voters() != 0 || b.Term() != 0 || b.Base() != 0 {
		t.Errorf("%v, %b, %d, %d", b.Won(), b.Voters(), b.Term(), b.Base())
	}
	for _, n := range []int{math.MinInt, -1, 0, 1, 64, math.MaxInt} {
		if l := b.Merge(n); len(l) != 0 {
			t.Errorf("Merge(%d): %v", n, l)
		}
	}
}

func TestNil(t *testing.T) {
	nothing(t, nil, api.ErrNil)
}

// One that no call made has no nodes: it is asked of one that there is not.
func TestThatNoCallMade(t *testing.T) {
	var b ballot.Ballot
	nothing(t, &b, api.ErrArg)
	nothing(t, &ballot.Ballot{}, api.ErrArg)
	nothing(t, new(ballot.Ballot), api.ErrArg)
}

// P26.3

// orders hands each order of the numbers below n to do.
func orders(n int, do func(order []int)) {
	var more func(order []int)
	more = func(order []int) {
		if len(order) == n {
			do(order)
			return
		}
		for k := range n {
			if !slices.Contains(order, k) {
				more(append(slices.Clone(order), k))
			}
		}
	}
	more(nil)
}

// In which order votes come is of no matter, even where two entries of one index and one term are unlike.
func TestVotesInEachOrder(t *testing.T) {
	g := rand.New(rand.NewSource(265))
	for nodes := 1; nodes <= 6; nodes++ {
		for range 4 {
			has := make([][]api.Entry, nodes)
			for node := range has {
				has[node] = some(g, 3)
			}
			self := g.Intn(nodes)
			want := merge.Merge(2, 9, 3, has...)
			orders(nodes, func(order []int) {
				b := start(t, nodes, self, 9, 2, has[self])
				for _, node := range order {
					if node != self {
						grant(t, b, node, has[node])
					}
				}
				if got := b.Merge(3); !sameLists(got, want) || !b.Won() || b.Voters() != 1<<nodes-1 {
					t.Fatalf("%v: %v, not %v", order, got, want)
				}
			})
		}
	}
}

// Two ballots that are won have a voter in common, whoever asks.
func TestTwoThatAreWon(t *testing.T) {
	for nodes := 1; nodes <= api.MaxNodes; nodes++ {
		var won []*ballot.Ballot
		sets(nodes, func(set uint64, in []int) {
			if len(in) == 0 {
				return
			}
			b := start(t, nodes, in[len(in)/2], 5, 0, nil)
			for _, node := range in {
				b.Grant(node, nil)
			}
			if b.Won() {
				won = append(won, b)
			}
		})
		if len(won) == 0 {
			t.Errorf("of %d nodes none is won", nodes)
		}
		for _, a := range won {
			for _, b := range won {
				if a.Voters()&b.Voters() == 0 {
					t.Errorf("%b and %b of %d nodes", a.Voters(), b.Voters(), nodes)
				}
			}
		}
	}
}

// Two ballots are each other's nothing.
func TestTwoBallots(t *testing.T) {
	a := start(t, 3, 0, 2, 0, []api.Entry{writes(1, 1, 1, 1)})
	b := start(t, 5, 1, 3, 1, []api.Entry{writes(2, 1, 1, 2)})
	grant(t, a, 2, nil)
	if b.Voters() != 2 || b.Won() || b.Term() != 3 || b.Base() != 1 {
		t.Errorf("%b, %v, %d, %d", b.Voters(), b.Won(), b.Term(), b.Base())
	}
	grant(t, b, 0, nil)
	grant(t, b, 4, nil)
	if a.Voters() != 5 || !a.Won() || len(a.Merge(1)) != 1 || len(b.Merge(1)) != 1 || b.Merge(1)[0].Req != 2 {
		t.Errorf("%b, %v, %v", a.Voters(), a.Merge(1), b.Merge(1))
	}
}
