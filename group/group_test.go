package group_test

import (
	"fmt"
	"math"
	"slices"
	"strings"
	"testing"

	"keelson/api"
	"keelson/group"
	"keelson/node"
)

const people = 16

var three = api.Config{Nodes: 3, Behind: 4, Blocks: 8}

// text is so many blocks of a letter.
func text(sign string, blocks int) string {
	return strings.Repeat(sign, api.BlockLen*blocks)
}

func is(t *testing.T, what string, got, want api.Errno) {
	t.Helper()
	if got != want {
		t.Errorf("%s: %d, not %d", what, int(got), int(want))
	}
}

// does does acts that are done.
func does(t *testing.T, g *group.Group, l ...api.Act) {
	t.Helper()
	for _, a := range l {
		if e := g.Do(a); e != api.OK {
			t.Fatalf("%+v: %d", a, int(e))
		}
	}
}

// settles lets all come.
func settles(t *testing.T, g *group.Group) {
	t.Helper()
	if !g.Settle(10000) {
		t.Fatal("it never settles")
	}
}

func timer(n int) api.Act      { return api.Act{Kind: api.ActTimer, A: n} }
func save(n int) api.Act       { return api.Act{Kind: api.ActSave, A: n} }
func fuse(n, k int) api.Act    { return api.Act{Kind: api.ActFuse, A: n, B: k} }
func start(n int) api.Act      { return api.Act{Kind: api.ActStart, A: n} }
func deliver(a, b int) api.Act { return api.Act{Kind: api.ActDeliver, B: a*people + b} }
func drop(a, b int) api.Act    { return api.Act{Kind: api.ActDrop, B: a*people + b} }
func cut(a, b int) api.Act     { return api.Act{Kind: api.ActCut, B: a*people + b} }

func crash(n int, keep ...int) api.Act { return api.Act{Kind: api.ActCrash, A: n, Keep: keep} }

func write(client, from int, data string) api.Act {
	return api.Act{Kind: api.ActWrite, A: client, B: from, Data: data}
}

func read(client, from, count int) api.Act {
	return api.Act{Kind: api.ActRead, A: client, B: from, C: count}
}

func ask(client, to, req int) api.Act {
	return api.Act{Kind: api.ActAsk, A: client, B: to, C: req}
}

// at is the number of a client among those who speak.
func at(client int) int { return api.MaxNodes + client }

// served is a group in which the node 0 serves, in the term 1.
func served(t *testing.T, c api.Config) *group.Group {
	t.Helper()
	g := group.New(c)
	does(t, g, timer(0))
	settles(t, g)
	if !g.Node(0).Serves() {
		t.Fatal("it doesn't serve")
	}
	return g
}

// state is all that a group says of itself.
func state(g *group.Group) string {
	var b strings.Builder
	fmt.Fprintf(&b, "%+v\n%+v\n", g.Config(), g.Ops())
	for client := range uint64(10) {
		fmt.Fprint(&b, g.Waits(client))
	}
	l := g.Links()
	fmt.Fprint(&b, "\n")
	for link := range people * people {
		if n := l.Len(link); n > 0 || !l.Up(link/people, link%people) {
			fmt.Fprint(&b, link, ":", n, l.Up(link/people, link%people), " ")
		}
	}
	sent, came, lost, doubled, way := l.Counts()
	fmt.Fprintln(&b, "\n", sent, came, lost, doubled, way)
	for i := range g.Config().Nodes {
		fmt.Fprintln(&b, i, g.Loose(i), about(g.Node(i)))
	}
	return b.String()
}

// about is all that a node says of itself.
func about(n *node.Node) string {
	if n == nil {
		return "down"
	}
	vote, voted := n.Vote()
	chief, knows := n.Chief()
	i, e := n.Image()
	return fmt.Sprintf("role %d, term %d, vote %d %t, chief %d %t, serves %t, marks %+v, low %d, entries %+v, fresh %+v, image %+v %d, down %t", n.Role(), n.Term(), vote, voted, chief, knows, n.Serves(), n.Marks(), n.Low(), n.Entries(), n.Fresh(), i, int(e), n.Down())
}

// refuses checks that an act is refused, and changes nothing but the clock.
func refuses(t *testing.T, what string, g *group.Group, a api.Act, want api.Errno) {
	t.Helper()
	was, clock := state(g), g.Clock()
	is(t, what, g.Do(a), want)
	if now := state(g); now != was {
		t.Errorf("%s:\n%s\nnot\n%s", what, now, was)
	}
	if g.Clock() != clock+1 {
		t.Errorf("%s: the clock goes from %d to %d", what, clock, g.Clock())
	}
}

// lens checks how many messages are under way between some.
func lens(t *testing.T, what string, g *group.Group, want map[[2]int]int) {
	t.Helper()
	l := g.Links()
	for a := range people {
		for b := range people {
			if got := l.Len(a*people + b); got != want[[2]int{a, b}] {
				t.Errorf("%s: %d are under way from %d to %d, not %d", what, got, a, b, want[[2]int{a, b}])
			}
		}
	}
}

// ops checks what clients did.
func ops(t *testing.T, what string, g *group.Group, want ...api.Op) {
	t.Helper()
	if got := g.Ops(); !slices.Equal(got, want) {
		t.Errorf("%s:\n%+v\nnot\n%+v", what, got, want)
	}
}

// P28.1

func TestNew(t *testing.T) {
	for _, c := range []api.Config{three, {Nodes: 5, Behind: 1, Blocks: 1}, {Nodes: 7, Behind: 64, Blocks: 64}} {
		g := group.New(c)
		if g == nil || g.Config() != c || g.Clock() != 0 || len(g.Ops()) != 0 {
			t.Fatal(c)
		}
		for i := -2; i < 20; i++ {
			n := g.Node(i)
			if (n != nil) != (i >= 0 && i < c.Nodes) {
				t.Error(c, i, n)
			}
			if n != nil && (n.Down() || n.Term() != 0 || n.Role() != node.Follower) {
				t.Error(c, i, about(n))
			}
			if g.Loose(i) != 0 {
				t.Error(c, i, g.Loose(i))
			}
		}
		for client := range uint64(12) {
			if l := g.Waits(client); len(l) != 0 {
				t.Error(c, client, l)
			}
		}
		l := g.Links()
		for a := range people {
			for b := range people {
				if !l.Up(a, b) || l.Link(a, b) != a*people+b {
					t.Error(a, b)
				}
			}
		}
		if l.Link(people, 0) != -1 || l.Link(0, people) != -1 {
			t.Error("somebody else speaks")
		}
		lens(t, "new", g, nil)
	}
}

func TestNodesHaveDevicesOfTheirOwn(t *testing.T) {
	g := group.New(three)
	does(t, g, timer(1))
	for i := range 3 {
		if want := uint64(i % 2); g.Node(i).Term() != want {
			t.Error(i, g.Node(i).Term())
		}
	}
	does(t, g, crash(0), crash(1), crash(2), start(0), start(1), start(2))
	for i := range 3 {
		if want := uint64(i % 2); g.Node(i).Term() != want {
			t.Error(i, g.Node(i).Term())
		}
	}
	if n := g.Node(1); n.Role() != node.Follower {
		t.Error(n.Role())
	}
	if v, ok := g.Node(1).Vote(); v != 1 || !ok {
		t.Error(v, ok)
	}
}

func TestNewOfConfigsThatAreNotFine(t *testing.T) {
	for _, c := range []api.Config{{}, {Nodes: 1, Behind: 1, Blocks: 1}, {Nodes: 2, Behind: 1, Blocks: 1}, {Nodes: 4, Behind: 1, Blocks: 1}, {Nodes: 9, Behind: 1, Blocks: 1}, {Nodes: -3, Behind: 1, Blocks: 1},
		{Nodes: 3, Behind: 0, Blocks: 1}, {Nodes: 3, Behind: 65, Blocks: 1}, {Nodes: 3, Behind: -1, Blocks: 1}, {Nodes: 3, Behind: 1, Blocks: 0}, {Nodes: 3, Behind: 1, Blocks: 65}, {Nodes: 3, Behind: 1, Blocks: math.MaxUint32}} {
		if g := group.New(c); g != nil {
			t.Error(c)
		}
	}
}

func TestNil(t *testing.T) {
	for what, g := range map[string]*group.Group{"nil": nil, "that no call made": {}} {
		for kind := range 20 {
			for k := range 3 {
				is(t, what, g.Do(api.Act{Kind: kind, A: k, B: k, C: k, Data: text("a", k)}), api.ErrNil)
			}
		}
		for _, most := range []int{-1, 0, 1, 99} {
			if g.Settle(most) {
				t.Error(what)
			}
		}
		for i := -1; i < 9; i++ {
			if g.Node(i) != nil || g.Loose(i) != 0 || len(g.Waits(uint64(max(i, 0)))) != 0 {
				t.Error(what, i)
			}
		}
		if g.Config() != (api.Config{}) || len(g.Ops()) != 0 || g.Clock() != 0 || g.Links() != nil {
			t.Error(what)
		}
	}
}

func TestTheExample(t *testing.T) {
	g := group.New(three)
	does(t, g, timer(0))
	settles(t, g)
	if !g.Node(0).Serves() || g.Node(0).Term() != 1 {
		t.Error(about(g.Node(0)))
	}
	for i := range 3 {
		if chief, ok := g.Node(i).Chief(); chief != 0 || !ok {
			t.Error(i, chief, ok)
		}
	}
}

func TestTheExamplesOfTheWhole(t *testing.T) {
	g := served(t, three)
	does(t, g, write(1, 2, text("a", 1)))
	settles(t, g)
	does(t, g, read(1, 2, 1))
	settles(t, g)
	if l := g.Ops(); len(l) != 2 || l[0].End == 0 || l[1].End == 0 || l[1].Data != text("a", 1) {
		t.Errorf("%+v", l)
	}
	g = served(t, three)
	does(t, g, write(1, 0, text("a", 1)), deliver(at(1), 0), drop(0, 1), drop(0, 2))
	does(t, g, write(2, 1, text("b", 1)))
	settles(t, g)
	if l := g.Ops(); l[0].End != 0 || l[1].End == 0 {
		t.Errorf("%+v", l)
	}
	does(t, g, timer(0))
	settles(t, g)
	if l := g.Ops(); l[0].End == 0 {
		t.Errorf("what was lost is told again: %+v", l)
	}
}

// P28.2: what is under way

func TestDeliver(t *testing.T) {
	g := group.New(three)
	does(t, g, timer(0))
	lens(t, "votes are asked", g, map[[2]int]int{{0, 1}: 1, {0, 2}: 1})
	does(t, g, timer(0))
	lens(t, "twice", g, map[[2]int]int{{0, 1}: 2, {0, 2}: 2})
	does(t, g, api.Act{Kind: api.ActDeliver, A: 1, B: 1}) // the later one overtakes
	if n := g.Node(1); n.Term() != 2 {
		t.Error(n.Term())
	}
	lens(t, "one came", g, map[[2]int]int{{0, 1}: 1, {0, 2}: 2, {1, 0}: 1})
	does(t, g, deliver(0, 1), deliver(1, 0))
	lens(t, "it leads", g, map[[2]int]int{{0, 1}: 1, {0, 2}: 3, {1, 0}: 1})
	if g.Node(0).Role() != node.Leader {
		t.Error(about(g.Node(0)))
	}
}

func TestDeliverDropAndDoubleOfNothing(t *testing.T) {
	g := group.New(three)
	does(t, g, timer(0))
	for what, kind := range map[string]int{"deliver": api.ActDeliver, "drop": api.ActDrop, "double": api.ActDouble} {
		for _, link := range []int{math.MinInt, -1, people * people, people*people + 1, math.MaxInt} {
			refuses(t, what+" on no link", g, api.Act{Kind: kind, A: 0, B: link}, api.ErrRange)
		}
		for _, i := range []int{math.MinInt, -1, 1, 2, math.MaxInt} {
			refuses(t, what+" of none", g, api.Act{Kind: kind, A: i, B: 1}, api.ErrNone)
		}
		for _, link := range []int{0, 3, 16, 255} {
			refuses(t, what+" where nothing is", g, api.Act{Kind: kind, A: 0, B: link}, api.ErrNone)
		}
	}
	does(t, g, cut(1, 0))
	refuses(t, "deliver on a cut one", g, deliver(0, 1), api.ErrState)
	does(t, g, api.Act{Kind: api.ActDouble, B: 1})
	lens(t, "double on a cut one", g, map[[2]int]int{{0, 1}: 2, {0, 2}: 1})
	does(t, g, drop(0, 1), drop(0, 1))
	lens(t, "drop on a cut one", g, map[[2]int]int{{0, 2}: 1})
}

func TestDoubleUntilFull(t *testing.T) {
	g := group.New(three)
	does(t, g, timer(0))
	for range api.MaxBag - 1 {
		does(t, g, api.Act{Kind: api.ActDouble, B: 1})
	}
	refuses(t, "full", g, api.Act{Kind: api.ActDouble, B: 1}, api.ErrFull)
	does(t, g, timer(0)) // what is told on it is lost
	lens(t, "full", g, map[[2]int]int{{0, 1}: api.MaxBag, {0, 2}: 2})
	for range api.MaxBag {
		does(t, g, deliver(0, 1))
	}
	if g.Node(1).Term() != 1 {
		t.Error(g.Node(1).Term())
	}
}

func TestToWhoIsDown(t *testing.T) {
	g := group.New(three)
	does(t, g, timer(0), crash(1), deliver(0, 1))
	lens(t, "it is gone", g, map[[2]int]int{{0, 2}: 1})
	does(t, g, start(1))
	if g.Node(1).Term() != 0 {
		t.Error("it came")
	}
	does(t, g, fuse(2, 0), deliver(0, 2))
	if !g.Node(2).Down() {
		t.Error("the power isn't gone")
	}
	lens(t, "nothing is told", g, nil)
	does(t, g, timer(0), deliver(0, 2))
	lens(t, "without power", g, map[[2]int]int{{0, 1}: 1})
}

func TestCutAndHeal(t *testing.T) {
	for link := range people * people {
		g := group.New(three)
		does(t, g, api.Act{Kind: api.ActCut, B: link, A: 99, C: -7})
		a, b := link/people, link%people
		l := g.Links()
		for x := range people {
			for y := range people {
				between := x == a && y == b || x == b && y == a
				if l.Up(x, y) == between {
					t.Fatal(link, x, y)
				}
			}
		}
		does(t, g, cut(1, 2), api.Act{Kind: api.ActHeal, A: -1, B: -1})
		l = g.Links()
		for x := range people {
			for y := range people {
				if !l.Up(x, y) {
					t.Fatal(link, x, y)
				}
			}
		}
	}
	g := group.New(three)
	for _, link := range []int{math.MinInt, -256, -1, people * people, people*people + 1, math.MaxInt} {
		refuses(t, "no link", g, api.Act{Kind: api.ActCut, B: link}, api.ErrRange)
	}
	does(t, g, cut(0, 1), timer(0))
	lens(t, "lost", g, map[[2]int]int{{0, 2}: 1})
	does(t, g, cut(1, at(1)), write(1, 0, text("a", 1)), cut(0, at(1)), write(1, 0, text("a", 1)))
	lens(t, "lost", g, map[[2]int]int{{0, 2}: 1, {at(1), 0}: 1})
	asked := api.Op{Client: 1, Write: true, Span: api.Span{Count: 1}, Data: text("a", 1), Begin: g.Clock() - 2}
	again := asked
	again.Begin = g.Clock()
	ops(t, "asked all the same", g, asked, again)
}

// P28.2: nodes

func TestActsOnNoNode(t *testing.T) {
	for _, nodes := range []int{3, 5, 7} {
		g := group.New(api.Config{Nodes: nodes, Behind: 1, Blocks: 1})
		does(t, g, crash(1))
		for _, kind := range []int{api.ActTimer, api.ActSave, api.ActFuse, api.ActCrash, api.ActStart} {
			for _, a := range []int{math.MinInt, -1, nodes, nodes + 1, 8, 15, math.MaxInt} {
				refuses(t, fmt.Sprint("kind ", kind, " on ", a), g, api.Act{Kind: kind, A: a}, api.ErrArg)
			}
			if kind != api.ActStart {
				refuses(t, fmt.Sprint("kind ", kind, " on one that is down"), g, api.Act{Kind: kind, A: 1, Keep: []int{1}}, api.ErrDown)
			}
		}
		for i := range nodes {
			if i != 1 {
				refuses(t, "a start of one that is up", g, start(i), api.ErrThere)
			}
		}
		does(t, g, start(1))
		refuses(t, "a start twice", g, start(1), api.ErrThere)
	}
}

func TestActsThatAreNone(t *testing.T) {
	g := group.New(three)
	for _, kind := range []int{math.MinInt, -1, 0, 14, 15, 99, math.MaxInt} {
		refuses(t, fmt.Sprint("the kind ", kind), g, api.Act{Kind: kind, A: 1, B: 1, C: 1, Data: text("a", 1)}, api.ErrArg)
	}
}

func TestCrashWithEachKeep(t *testing.T) {
	whole := false
	for keep := -1; keep <= api.SectorLen+1; keep++ {
		g := group.New(three)
		does(t, g, fuse(2, 1), timer(2))
		if !g.Node(2).Down() || g.Loose(2) != 1 {
			t.Fatal(g.Loose(2))
		}
		does(t, g, crash(2, keep))
		if g.Node(2) != nil || g.Loose(2) != 0 {
			t.Fatal("it isn't down")
		}
		does(t, g, start(2))
		n := g.Node(2)
		v, ok := n.Vote()
		if n.Down() || n.Role() != node.Follower || n.Term() != map[bool]uint64{true: 1}[ok] || v != map[bool]int{true: 2}[ok] || whole && !ok {
			t.Error(keep, about(n))
		}
		if whole = ok; ok && keep <= 0 || !ok && keep >= api.SectorLen {
			t.Error(keep, about(n))
		}
	}
	g := group.New(three)
	does(t, g, fuse(2, 1), timer(2), crash(2), start(2))
	if n := g.Node(2); n.Term() != 0 {
		t.Error(about(n))
	}
}

func TestFuses(t *testing.T) {
	for k, down := range []bool{true, true, false} { // a timer's vow is a change and a flush
		g := group.New(three)
		does(t, g, fuse(1, k), timer(1))
		if n := g.Node(1); n.Down() != down {
			t.Error(k, about(n))
		}
		want := map[[2]int]int{}
		if !down {
			want = map[[2]int]int{{1, 0}: 1, {1, 2}: 1}
		}
		lens(t, "a timer", g, want)
	}
	for k, down := range []bool{true, true, true, true, false} { // the term, and then the vote
		g := group.New(three)
		does(t, g, timer(0), fuse(1, k), deliver(0, 1))
		if n := g.Node(1); n.Down() != down {
			t.Error(k, about(n))
		}
		want := map[[2]int]int{{0, 2}: 1}
		if !down {
			want[[2]int{1, 0}] = 1
		}
		lens(t, "a delivery", g, want)
	}
	g := group.New(three)
	does(t, g, fuse(1, 0))
	is(t, "a save", g.Do(save(1)), api.ErrDown)
	is(t, "a save without power", g.Do(save(1)), api.ErrDown)
	does(t, g, timer(1), fuse(1, 3)) // there is the node still, and does nothing
	lens(t, "a timer without power", g, nil)
	refuses(t, "a start without power", g, start(1), api.ErrThere)
	does(t, g, crash(1), start(1), timer(1))
	lens(t, "there is power", g, map[[2]int]int{{1, 0}: 1, {1, 2}: 1})
	does(t, g, fuse(2, 0), fuse(2, -1), timer(2))
	if g.Node(2).Down() {
		t.Error("a later fuse takes its place")
	}
	does(t, g, fuse(2, 0), crash(2), start(2), timer(2))
	if g.Node(2).Down() {
		t.Error("behind a crash there is no fuse")
	}
}

func TestSave(t *testing.T) {
	g := served(t, three)
	does(t, g, write(1, 0, text("a", 1)))
	settles(t, g)
	if n := g.Node(0); n.Low() != 0 || n.Marks().Low != 1 || g.Loose(0) != 1 {
		t.Fatal(about(n), g.Loose(0))
	}
	does(t, g, save(0))
	if n := g.Node(0); n.Low() != 1 || g.Loose(0) != 0 {
		t.Error(about(n), g.Loose(0))
	}
	does(t, g, crash(0), start(0), crash(1), start(1))
	if n := g.Node(0); n.Marks().Low != 1 || n.Low() != 1 {
		t.Error(about(n))
	}
	if n := g.Node(1); n.Marks().Low != 0 || len(n.Entries()) != 1 {
		t.Error(about(n))
	}
}

// P28.2: clients

func TestActsOfNoClient(t *testing.T) {
	g := served(t, three)
	for _, client := range []int{math.MinInt, -1, 0, api.MaxClients + 1, math.MaxInt} {
		refuses(t, "a write", g, write(client, 0, text("a", 1)), api.ErrArg)
		refuses(t, "a write that can't be", g, write(client, -1, ""), api.ErrArg)
		refuses(t, "a read", g, read(client, 0, 1), api.ErrArg)
		refuses(t, "an ask", g, ask(client, 0, 1), api.ErrArg)
	}
	for _, client := range []int{1, api.MaxClients} {
		does(t, g, write(client, 0, text("a", 1)), read(client, 0, 1))
		settles(t, g)
		if l := g.Waits(uint64(client)); len(l) != 0 {
			t.Error(client, l)
		}
	}
}

func TestSpansThatCannotBe(t *testing.T) {
	g := served(t, api.Config{Nodes: 3, Behind: 4, Blocks: 20})
	for what, a := range map[string]api.Act{
		"B below 0":               write(1, -1, text("a", 1)),
		"B far below 0":           write(1, math.MinInt, text("a", 1)),
		"B behind the last one":   write(1, 20, text("a", 1)),
		"B that wraps round":      write(1, 1<<32, text("a", 1)),
		"B far above":             write(1, math.MaxInt, text("a", 1)),
		"over the end":            write(1, 19, text("a", 2)),
		"no data":                 write(1, 0, ""),
		"no whole block":          write(1, 0, "abc"),
		"a byte less":             write(1, 0, text("a", 2)[1:]),
		"a byte more":             write(1, 0, text("a", 2)+"a"),
		"more than MaxCount":      write(1, 0, text("a", api.MaxCount+1)),
		"C below 0":               {Kind: api.ActWrite, A: 1, B: 0, C: -1, Data: text("a", 1)},
		"a read, B below 0":       read(1, -1, 1),
		"a read, B behind":        read(1, 20, 1),
		"a read, B wraps":         read(1, 1<<32, 1),
		"a read, C below 0":       read(1, 0, -1),
		"a read, C far below 0":   read(1, 0, math.MinInt),
		"a read of none":          read(1, 0, 0),
		"a read over the end":     read(1, 13, 8),
		"a read of too many":      read(1, 0, api.MaxCount+1),
		"a read, C wraps":         read(1, 0, 1<<32+1),
		"a read, C far above":     read(1, 0, math.MaxInt),
		"a read behind the limit": read(1, api.MaxBlocks, 1),
	} {
		refuses(t, what, g, a, api.ErrRange)
	}
	does(t, g, write(1, 12, text("a", 8)), read(1, 12, 8), write(1, 19, text("b", 1)), read(1, 19, 1))
	a := write(1, 0, text("c", 1))
	a.C = 99 // of no matter
	does(t, g, a)
	r := read(1, 0, 1)
	r.Data = "of no matter"
	does(t, g, r)
	l := g.Ops()
	if len(l) != 6 || l[4].Span != (api.Span{Count: 1}) || l[5].Data != "" || l[0].Span != (api.Span{From: 12, Count: 8}) {
		t.Errorf("%+v", l)
	}
	g = group.New(api.Config{Nodes: 3, Behind: 4, Blocks: api.MaxBlocks})
	does(t, g, write(1, 63, text("a", 1)), read(1, 56, 8))
	refuses(t, "over the end", g, read(1, 57, 8), api.ErrRange)
}

func TestOps(t *testing.T) {
	g := served(t, three)
	clock := g.Clock()
	does(t, g, write(2, 3, text("a", 2)))
	first := api.Op{Client: 2, Write: true, Span: api.Span{From: 3, Count: 2}, Data: text("a", 2), Begin: clock + 1}
	ops(t, "asked", g, first)
	refuses(t, "refused", g, write(2, 99, text("a", 2)), api.ErrRange)
	does(t, g, read(5, 4, 1))
	second := api.Op{Client: 5, Span: api.Span{From: 4, Count: 1}, Begin: clock + 3}
	ops(t, "asked", g, first, second)
	lens(t, "asked of the node 0", g, map[[2]int]int{{at(2), 0}: 1, {at(5), 0}: 1})
	does(t, g, deliver(at(2), 0), deliver(0, 1), deliver(1, 0))
	ops(t, "on its way", g, first, second)
	does(t, g, deliver(0, at(2)))
	first.End = clock + 7
	ops(t, "answered", g, first, second)
	does(t, g, deliver(at(5), 0), deliver(0, 1), deliver(1, 0), deliver(0, at(5)))
	second.End, second.Data = clock+11, text("a", 1)
	ops(t, "answered", g, first, second)
	if g.Clock() != clock+11 {
		t.Error(g.Clock())
	}
	l := g.Ops()
	for i := range l {
		l[i] = api.Op{}
	}
	ops(t, "written over", g, first, second)
}

// waits checks which requests of a client were not answered.
func waits(t *testing.T, what string, g *group.Group, client uint64, want ...uint64) {
	t.Helper()
	if got := g.Waits(client); !slices.Equal(got, want) {
		t.Errorf("%s: %v, not %v", what, got, want)
	}
}

func TestHowFarAClientGoes(t *testing.T) {
	g := served(t, api.Config{Nodes: 3, Behind: 64, Blocks: 8})
	for k := range api.Keep / 2 {
		if k%2 == 0 {
			does(t, g, write(1, k, text("a", 1)))
		} else {
			does(t, g, read(1, k, 1))
		}
	}
	waits(t, "all", g, 1, 1, 2, 3, 4, 5, 6, 7, 8)
	refuses(t, "one more", g, write(1, 0, text("a", 1)), api.ErrBusy)
	refuses(t, "one more read", g, read(1, 0, 1), api.ErrBusy)
	refuses(t, "one that can't be", g, read(1, 0, 0), api.ErrRange)
	does(t, g, write(2, 0, text("a", 1)))
	waits(t, "another client", g, 2, 1)
	for k := range 8 { // all but the first one come
		if k > 0 {
			does(t, g, api.Act{Kind: api.ActDeliver, A: 1, B: at(1) * people})
		}
	}
	does(t, g, cut(0, at(1)), api.Act{Kind: api.ActHeal})
	does(t, g, drop(at(1), 0))
	settles(t, g)
	does(t, g, timer(0))
	settles(t, g)
	waits(t, "the first one is lost", g, 1, 1)
	refuses(t, "still", g, write(1, 0, text("a", 1)), api.ErrBusy)
	does(t, g, ask(1, 0, 1))
	settles(t, g)
	waits(t, "none", g, 1)
	for range 40 {
		does(t, g, write(1, 0, text("a", 1)))
		settles(t, g)
	}
	does(t, g, write(1, 0, text("a", 1)), drop(at(1), 0)) // the request 49
	for k := range 7 {
		does(t, g, write(1, 1+k%7, text("b", 1)))
		settles(t, g)
	}
	waits(t, "one is lost", g, 1, 49)
	refuses(t, "eight ahead", g, write(1, 0, text("a", 1)), api.ErrBusy)
	does(t, g, ask(1, 0, 49))
	settles(t, g)
	waits(t, "it was not old", g, 1)
}

func TestAsk(t *testing.T) {
	g := served(t, three)
	does(t, g, write(3, 0, text("a", 1)), read(3, 0, 1), write(4, 0, text("b", 1)))
	for _, to := range []int{math.MinInt, -1, 3, 7, math.MaxInt} {
		refuses(t, "of no node", g, ask(3, to, 1), api.ErrArg)
		refuses(t, "of no node, and no request", g, ask(3, to, 99), api.ErrArg)
	}
	for _, req := range []int{math.MinInt, -1, 0, 3, math.MaxInt} {
		refuses(t, "no request", g, ask(3, 0, req), api.ErrNone)
	}
	refuses(t, "of a client without any", g, ask(1, 0, 1), api.ErrNone)
	was := g.Ops()
	does(t, g, ask(3, 0, 1), ask(3, 1, 2), ask(3, 2, 2))
	lens(t, "asked", g, map[[2]int]int{{at(3), 0}: 3, {at(4), 0}: 1, {at(3), 1}: 1, {at(3), 2}: 1})
	ops(t, "asked", g, was...)
	settles(t, g)
	waits(t, "answered", g, 3)
	refuses(t, "a write that was answered", g, ask(3, 0, 1), api.ErrState)
	refuses(t, "a read that was answered", g, ask(3, 1, 2), api.ErrState)
	if l := g.Ops(); l[1].Data == "" || l[0].Begin != was[0].Begin {
		t.Errorf("%+v", l)
	}
	if m := g.Node(0).Marks(); m != (api.Marks{Low: 2}) {
		t.Error("each write once:", m)
	}
	does(t, g, crash(1), write(3, 0, text("c", 1)), ask(3, 1, 3))
	lens(t, "of one that is down", g, map[[2]int]int{{at(3), 0}: 1, {at(3), 1}: 1})
}

// P28.3

func TestWhomAClientGuesses(t *testing.T) {
	g := group.New(three)
	does(t, g, write(1, 0, text("a", 1)))
	lens(t, "0 at first", g, map[[2]int]int{{at(1), 0}: 1})
	settles(t, g)
	waits(t, "nobody leads", g, 1, 1)
	does(t, g, write(1, 0, text("b", 1)))
	lens(t, "it was told nobody", g, map[[2]int]int{{at(1), 0}: 1})
	settles(t, g)
	does(t, g, timer(2))
	settles(t, g)
	does(t, g, ask(1, 1, 1), write(2, 1, text("c", 1)))
	settles(t, g)
	waits(t, "another one leads", g, 1, 1, 2)
	does(t, g, read(1, 0, 1), read(2, 0, 1), read(3, 0, 1))
	lens(t, "it was told 2", g, map[[2]int]int{{at(1), 2}: 1, {at(2), 2}: 1, {at(3), 0}: 1})
	settles(t, g)
	waits(t, "the read", g, 1, 1, 2)
	does(t, g, ask(1, 2, 1), ask(1, 2, 2), ask(2, 2, 1))
	settles(t, g)
	waits(t, "all", g, 1)
	waits(t, "all", g, 2)
	waits(t, "not asked again", g, 3, 1)
	does(t, g, timer(1), deliver(1, 2))
	does(t, g, write(1, 0, text("d", 1)), deliver(at(1), 2), deliver(2, at(1)), write(1, 0, text("e", 1)))
	lens(t, "who was told nobody guesses as ever", g, map[[2]int]int{{1, 0}: 1, {2, 1}: 1, {at(1), 2}: 1})
}

func TestAnAnswerOfARequestThatWasAnswered(t *testing.T) {
	g := served(t, three)
	does(t, g, write(1, 0, text("a", 1)), ask(1, 1, 1), deliver(at(1), 1))
	lens(t, "1 doesn't lead", g, map[[2]int]int{{at(1), 0}: 1, {1, at(1)}: 1})
	does(t, g, crash(0), start(0), timer(2), deliver(2, 0), deliver(0, 2), deliver(2, 0), deliver(2, 1))
	does(t, g, ask(1, 2, 1), deliver(at(1), 2), deliver(2, 1), deliver(2, 1), deliver(1, 2), deliver(1, 2))
	settles(t, g)
	waits(t, "answered", g, 1)
	does(t, g, read(1, 0, 1))
	settles(t, g)
}

func TestAnswersThatComeTwice(t *testing.T) {
	g := served(t, three)
	does(t, g, write(1, 0, text("a", 1)), read(1, 0, 1), deliver(at(1), 0), deliver(at(1), 0))
	for g.Links().Len(at(1)) < 2 {
		for _, l := range [][2]int{{0, 1}, {1, 0}} {
			if g.Links().Len(l[0]*people+l[1]) > 0 {
				does(t, g, deliver(l[0], l[1]))
			}
		}
	}
	does(t, g, api.Act{Kind: api.ActDouble, A: 0, B: at(1)}, api.Act{Kind: api.ActDouble, A: 1, B: at(1)})
	does(t, g, deliver(0, at(1)), deliver(0, at(1)))
	want := g.Ops()
	if want[0].End == 0 || want[1].End == 0 || want[1].Data != text("a", 1) {
		t.Fatalf("%+v", want)
	}
	does(t, g, deliver(0, at(1)), deliver(0, at(1)))
	ops(t, "the second ones", g, want...)
	waits(t, "the second ones", g, 1)
}

func TestAnswersThatSayNothing(t *testing.T) {
	g := served(t, api.Config{Nodes: 3, Behind: 1, Blocks: 8})
	does(t, g, write(1, 0, text("a", 1)), write(2, 1, text("b", 1)), deliver(at(1), 0), deliver(at(2), 0), deliver(0, at(2)))
	waits(t, "busy", g, 2, 1)
	if l := g.Ops(); l[1].End != 0 {
		t.Error(l)
	}
	does(t, g, write(2, 1, text("c", 1)))
	lens(t, "it guesses as ever", g, map[[2]int]int{{0, 1}: 1, {0, 2}: 1, {at(2), 0}: 1})
	settles(t, g)
	does(t, g, ask(2, 0, 1))
	settles(t, g)
	waits(t, "asked again", g, 2)

	// A request comes again when it is old.
	does(t, g, write(3, 0, text("x", 1)), api.Act{Kind: api.ActDouble, B: at(3) * people}, deliver(at(3), 0))
	for g.Links().Len(at(3)) == 0 {
		does(t, g, deliver(0, 1), deliver(1, 0))
	}
	does(t, g, deliver(0, at(3)))
	for k := range api.Keep + 1 {
		does(t, g, write(3, 0, text("y", 1)))
		link := at(3) * people
		does(t, g, api.Act{Kind: api.ActDeliver, A: g.Links().Len(link) - 1, B: link})
		for g.Links().Len(at(3)) == 0 {
			does(t, g, deliver(0, 1), deliver(1, 0))
		}
		does(t, g, deliver(0, at(3)))
		waits(t, fmt.Sprint("the next one, ", k), g, 3)
	}
	want := g.Ops()
	does(t, g, deliver(at(3), 0), deliver(0, at(3)))
	ops(t, "it is old", g, want...)
	if i, _ := g.Node(0).Image(); i.Blocks[:8] != text("y", 1) {
		t.Errorf("%q", i.Blocks)
	}
}

func TestClientsAreApart(t *testing.T) {
	g := served(t, three)
	does(t, g, write(1, 0, text("a", 1)), write(2, 0, text("b", 1)), write(2, 1, text("c", 1)))
	waits(t, "1", g, 1, 1)
	waits(t, "2", g, 2, 1, 2)
	for _, client := range []uint64{0, 3, 8, 9, math.MaxUint64} {
		waits(t, "others", g, client)
	}
	does(t, g, drop(at(1), 0))
	settles(t, g)
	waits(t, "1", g, 1, 1)
	waits(t, "2", g, 2)
	l := g.Waits(1)
	l[0] = 99
	waits(t, "written over", g, 1, 1)
}

func TestLinksAreAClone(t *testing.T) {
	g := group.New(three)
	does(t, g, timer(0))
	l := g.Links()
	l.Clear()
	l.Cut(0, 1)
	lens(t, "a clone", g, map[[2]int]int{{0, 1}: 1, {0, 2}: 1})
	if !g.Links().Up(0, 1) {
		t.Error("cut")
	}
	was := g.Links()
	does(t, g, deliver(0, 1))
	if was.Len(1) != 1 {
		t.Error("the clone of earlier is another one")
	}
}

func TestSettle(t *testing.T) {
	g := group.New(three)
	for _, most := range []int{math.MinInt, -1, 0, 1, math.MaxInt} {
		if !g.Settle(most) || g.Clock() != 0 {
			t.Error("nothing is under way", most, g.Clock())
		}
	}
	does(t, g, timer(0))
	for _, most := range []int{math.MinInt, -1, 0} {
		if g.Settle(most) || g.Clock() != 1 {
			t.Error("not at all", most, g.Clock())
		}
	}
	if g.Settle(1) || g.Clock() != 2 {
		t.Error("one")
	}
	lens(t, "the first one of the first link", g, map[[2]int]int{{0, 2}: 1, {1, 0}: 1})
	if g.Settle(2) || g.Clock() != 4 {
		t.Error("two")
	}
	lens(t, "it leads", g, map[[2]int]int{{0, 1}: 1, {0, 2}: 1, {2, 0}: 1, {1, 0}: 0})
	k := 0
	for ; !g.Settle(1); k++ {
		if k > 99 {
			t.Fatal("it never settles")
		}
	}
	lens(t, "settled", g, nil)
	if g.Clock() != 4+k+1 {
		t.Error(g.Clock(), k)
	}
	does(t, g, timer(0))
	clock := g.Clock()
	other := group.New(three)
	does(t, other, timer(0))
	settles(t, other)
	does(t, other, timer(0))
	if !g.Settle(math.MaxInt) || !other.Settle(4) {
		t.Error("just enough")
	}
	if g.Clock() != clock+4 {
		t.Error(g.Clock(), clock)
	}
}

func TestSettleWithCutLinks(t *testing.T) {
	g := group.New(three)
	does(t, g, timer(0), cut(0, 1))
	if !g.Settle(99) {
		t.Error("all that is left is on a link that is cut")
	}
	lens(t, "on a cut link", g, map[[2]int]int{{0, 1}: 1})
	if g.Node(0).Role() != node.Leader || g.Node(1).Term() != 0 {
		t.Error(about(g.Node(0)))
	}
	does(t, g, api.Act{Kind: api.ActHeal})
	if g.Settle(0) {
		t.Error("healed")
	}
	settles(t, g)
	if g.Node(1).Term() != 1 {
		t.Error(about(g.Node(1)))
	}
}

func TestTwoGroups(t *testing.T) {
	a, b := served(t, three), group.New(three)
	was := state(b)
	does(t, a, write(1, 0, text("a", 1)))
	settles(t, a)
	if now := state(b); now != was || b.Clock() != 0 {
		t.Errorf("%s, not %s", now, was)
	}
}
