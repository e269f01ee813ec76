package group_test

import (
	"fmt"
	"math/rand"
	"slices"
	"strings"
	"testing"

	"keelson/api"
	"keelson/entry"
	"keelson/group"
	"keelson/history"
	"keelson/image"
	"keelson/marks"
	"keelson/node"
	"keelson/order"
)

// watch looks at a group behind each act: who ever led, what was ever applied, and what was ever promised.
type watch struct {
	t     *testing.T
	what  string
	r     *rand.Rand
	g     *group.Group
	c     api.Config
	log   map[uint64]api.Entry // by index: what some node has applied
	after []image.Image        // by index: what all up to it make
	leads map[uint64]int       // by term
	top   uint64               // the greatest term in which one led
	terms []uint64
	votes []int // and 1
	rare  int   // how rarely a timer fires
	count map[string]int
}

func watches(t *testing.T, seed int64, c api.Config, count map[string]int) *watch {
	w := &watch{t: t, what: fmt.Sprintf("seed %d, %+v", seed, c), r: rand.New(rand.NewSource(seed)), g: group.New(c), c: c, log: map[uint64]api.Entry{}, leads: map[uint64]int{}, terms: make([]uint64, c.Nodes), votes: make([]int, c.Nodes), rare: 1 + int(seed%5), count: count}
	w.after = []image.Image{{Blocks: text("\x00", int(c.Blocks))}}
	return w
}

func (w *watch) wrong(a ...any) {
	w.t.Helper()
	w.t.Fatal(append([]any{w.what, "at", w.g.Clock()}, a...)...)
}

func (w *watch) do(a api.Act) api.Errno {
	w.t.Helper()
	e := w.g.Do(a)
	w.look()
	return e
}

func (w *watch) look() {
	w.t.Helper()
	for i := range w.c.Nodes {
		for _, e := range w.g.Node(i).Fresh() {
			w.applied(i, e)
		}
	}
	for i := range w.c.Nodes {
		n := w.g.Node(i)
		if n == nil {
			continue
		}
		w.promised(i, n)
		if n.Role() == node.Leader {
			w.led(i, n)
		}
		if !n.Down() && n.Marks().Bits == 0 {
			w.inOrder(i, n)
		}
	}
}

// applied is P28.5, and that no request is done twice.
func (w *watch) applied(i int, e api.Entry) {
	w.t.Helper()
	x, known := w.log[e.Index]
	if known && !entry.Alike(x, e) {
		w.wrong("the node", i, "applied", e, "where", x, "was applied")
	}
	if known {
		return
	}
	w.log[e.Index] = e
	w.count["applied"]++
	for index, x := range w.log {
		if index != e.Index && e.Kind == api.KindWrite && x.Kind == api.KindWrite && x.Client == e.Client && x.Req == e.Req {
			w.wrong("a request is done twice:", x, e)
		}
	}
}

// promised is P28.9.
func (w *watch) promised(i int, n *node.Node) {
	w.t.Helper()
	vote, voted := n.Vote()
	if voted {
		vote++
	}
	if n.Term() < w.terms[i] || n.Term() == w.terms[i] && w.votes[i] != 0 && w.votes[i] != vote {
		w.wrong("the node", i, "is of the term", n.Term(), "and voted for", vote-1, "not", w.terms[i], w.votes[i]-1)
	}
	w.terms[i], w.votes[i] = n.Term(), vote
}

// led is P28.4 and P28.7.
func (w *watch) led(i int, n *node.Node) {
	w.t.Helper()
	who, known := w.leads[n.Term()]
	if known && who != i {
		w.wrong("both", who, "and", i, "lead in", n.Term())
	}
	if known {
		return
	}
	w.leads[n.Term()] = i
	w.count["led"]++
	if n.Term() < w.top {
		return
	}
	w.top = n.Term()
	has := map[uint64]api.Entry{}
	for _, e := range n.Entries() {
		if e.Term == n.Term() {
			has[e.Index] = e
		}
	}
	for index, x := range w.log {
		if e, held := has[index]; !marks.Has(n.Marks(), index) && (!held || !entry.Alike(e, x)) {
			w.wrong("the leader", i, "of", n.Term(), "has not", x)
		}
	}
}

// inOrder is P28.6.
func (w *watch) inOrder(i int, n *node.Node) {
	w.t.Helper()
	low := n.Marks().Low
	for uint64(len(w.after)) <= low {
		e, ok := w.log[uint64(len(w.after))]
		next, wrong := order.Do(w.after[len(w.after)-1], e)
		if !ok || wrong != api.OK {
			w.wrong("nobody applied", len(w.after), int(wrong))
		}
		w.after = append(w.after, next)
	}
	if got, e := n.Image(); e != api.OK || got.Blocks != w.after[low].Blocks {
		w.wrong("the node", i, "has", got.Blocks, "not", w.after[low].Blocks)
	}
}

// line tells a link on which there is something, and one thing on it.
func (w *watch) line() (link, i int, ok bool) {
	l := w.g.Links()
	var some []int
	for link := range people * people {
		if l.Len(link) > 0 {
			some = append(some, link)
		}
	}
	if len(some) == 0 {
		return 0, 0, false
	}
	link = some[w.r.Intn(len(some))]
	if w.r.Intn(2) == 0 {
		i = w.r.Intn(l.Len(link))
	}
	return link, i, true
}

// moves does one act, drawn so that something comes of them.
func (w *watch) moves(ops, lossy, crashy int) {
	w.t.Helper()
	link, i, some := w.line()
	n := w.r.Intn(w.c.Nodes)
	client := 1 + w.r.Intn(3)
	switch k := w.r.Intn(100); {
	case k < 60 && some:
		w.do(api.Act{Kind: api.ActDeliver, A: i, B: link})
	case k < 63 && w.r.Intn(w.rare) == 0:
		w.do(timer(n))
	case k < 72 && len(w.g.Ops()) < ops:
		from := w.r.Intn(int(w.c.Blocks))
		count := 1 + w.r.Intn(min(api.MaxCount, int(w.c.Blocks)-from))
		if w.r.Intn(3) == 0 {
			w.do(read(client, from, count))
		} else {
			w.do(write(client, from, text(string(rune('a'+len(w.g.Ops())%26)), count)))
		}
	case k < 80:
		if to := w.leader(); to >= 0 && w.r.Intn(4) > 0 {
			n = to
		}
		if l := w.g.Waits(uint64(client)); len(l) > 0 {
			w.do(ask(client, n, int(l[w.r.Intn(len(l))])))
		}
	case k < 83 && lossy > 0 && some:
		w.do(api.Act{Kind: api.ActDrop, A: i, B: link})
	case k < 85 && lossy > 0 && some:
		w.do(api.Act{Kind: api.ActDouble, A: i, B: link})
	case k < 87 && lossy > 1:
		w.do(cut(n, w.r.Intn(w.c.Nodes)))
	case k < 89:
		w.do(api.Act{Kind: api.ActHeal})
	case k < 91 && crashy > 0:
		w.do(fuse(n, w.r.Intn(20)))
	case k < 93 && crashy > 0:
		w.crash(n)
	case k < 97:
		if x := w.g.Node(n); x != nil && x.Down() {
			w.crash(n)
		}
		w.do(start(n))
	case k < 99:
		w.do(save(n))
	}
}

// crash crashes a node, with some of each sector kept.
func (w *watch) crash(n int) {
	w.t.Helper()
	var keep []int
	for range w.g.Loose(n) {
		keep = append(keep, []int{0, api.SectorLen, w.r.Intn(api.SectorLen + 1)}[w.r.Intn(3)])
	}
	w.do(crash(n, keep...))
	w.count["crashes"]++
}

// settles lets all come, and looks behind each.
func (w *watch) settles() {
	w.t.Helper()
	for k := 0; !w.g.Settle(0); k++ {
		if k > 50000 {
			w.wrong("it never settles")
		}
		w.g.Settle(1)
		w.look()
	}
}

// calms is P28.10: once all are up, and all that is sent comes.
func (w *watch) calms() {
	w.t.Helper()
	w.do(api.Act{Kind: api.ActHeal})
	for n := range w.c.Nodes {
		if x := w.g.Node(n); x != nil && x.Down() {
			w.crash(n)
		}
		w.do(fuse(n, -1))
		w.do(start(n))
	}
	w.settles()
	timers := 0
	for ; w.leader() < 0; timers++ {
		if timers == 2*w.c.Nodes {
			w.wrong("nobody leads")
		}
		w.do(timer(timers % w.c.Nodes))
		w.settles()
	}
	for k := 0; !w.rests(); k++ {
		if k == 20 {
			w.wrong("it never rests")
		}
		for client := 1; client <= api.MaxClients; client++ {
			for _, req := range w.g.Waits(uint64(client)) {
				w.do(ask(client, w.leader(), int(req)))
			}
		}
		w.do(timer(w.leader()))
		w.settles()
	}
	first, _ := w.g.Node(0).Image()
	for n := range w.c.Nodes {
		if i, e := w.g.Node(n).Image(); i != first || e != api.OK {
			w.wrong("the node", n, "has", i, "not", first)
		}
	}
}

// leader tells who leads; -1: nobody.
func (w *watch) leader() int {
	for n := range w.c.Nodes {
		if x := w.g.Node(n); x.Role() == node.Leader && !x.Down() && x.Term() == slices.Max(w.terms) {
			return n
		}
	}
	return -1
}

// rests tells whether each request is answered, and all have applied the same.
func (w *watch) rests() bool {
	for client := range uint64(api.MaxClients + 1) {
		if len(w.g.Waits(client)) > 0 {
			return false
		}
	}
	for n := range w.c.Nodes {
		if m := w.g.Node(n).Marks(); m.Bits != 0 || m != w.g.Node(0).Marks() {
			return false
		}
	}
	return true
}

// saw is P28.8.
func (w *watch) saw() {
	w.t.Helper()
	l := w.g.Ops()
	for _, o := range l {
		w.count["ended"] += min(o.End, 1)
	}
	if len(l) <= history.Most && !history.Check(l, w.c.Blocks) {
		w.wrong("clients saw", l)
	}
}

// once lets a group be through some acts, and then calms it.
func once(t *testing.T, seed int64, steps, ops int, count map[string]int) {
	t.Helper()
	r := rand.New(rand.NewSource(seed))
	c := api.Config{Nodes: []int{3, 3, 5, 7}[r.Intn(4)], Behind: []int{1, 2, 3, 4, 8, 64}[r.Intn(6)], Blocks: uint32(1 + r.Intn(8))}
	w := watches(t, seed, c, count)
	lossy, crashy := r.Intn(3), r.Intn(3)
	for range steps {
		w.moves(ops, lossy, crashy)
	}
	w.saw()
	w.calms()
	w.saw()
}

func TestWhateverComes(t *testing.T) {
	count := map[string]int{}
	for seed := range int64(120) {
		once(t, seed, 200+int(seed)*7, history.Most, count)
	}
	if count["led"] < 200 || count["applied"] < 600 || count["crashes"] < 500 || count["ended"] < 1000 {
		t.Error(count)
	}
}

func TestWhateverComesInTheLongRun(t *testing.T) {
	count := map[string]int{}
	for seed := int64(1000); seed < 1020; seed++ {
		once(t, seed, 3000, 400, count)
	}
	if count["applied"] < 400 {
		t.Error(count)
	}
	t.Log(count)
}

// A node that told of what it had applied, and lost that, is told it once more.
func TestWhatWasAppliedAndLostComesBack(t *testing.T) {
	once(t, 2346, 1500, history.Most, map[string]int{})
	c := api.Config{Nodes: 3, Behind: 64, Blocks: 8}
	g := served(t, c)
	does(t, g, write(1, 0, text("a", 1)))
	settles(t, g)
	does(t, g, timer(0))
	settles(t, g) // all have applied 1, and nobody has saved it
	does(t, g, cut(1, 0), timer(2), deliver(2, 1), deliver(1, 2), drop(2, 0))
	if g.Node(2).Role() != node.Leader {
		t.Fatal(about(g.Node(2)))
	}
	does(t, g, drop(2, 1)) // there is one append, of what it has applied: no, its base is above that
	does(t, g, api.Act{Kind: api.ActHeal}, crash(1), start(1))
	does(t, g, timer(2))
	settles(t, g)
	does(t, g, timer(2))
	settles(t, g)
	for i := range 3 {
		if m := g.Node(i).Marks(); m != g.Node(2).Marks() {
			t.Error(i, m)
		}
	}
}

// W7: who was cut off comes to have what the others have.
func TestWhoWasCutOff(t *testing.T) {
	for _, behind := range []int{1, 2, 8, 64} {
		for _, many := range []int{1, 5, 31, 32, 33, 70, 200} {
			g := served(t, api.Config{Nodes: 3, Behind: behind, Blocks: 8})
			does(t, g, cut(0, 2), cut(1, 2))
			for k := range many {
				does(t, g, write(1+k%8, k%8, text(string(rune('a'+k%26)), 1)))
				settles(t, g)
			}
			does(t, g, api.Act{Kind: api.ActHeal})
			for range 8 {
				does(t, g, timer(0))
				settles(t, g)
			}
			want, _ := g.Node(0).Image()
			for i := range 3 {
				if got, e := g.Node(i).Image(); got != want || e != api.OK || got.Marks != (api.Marks{Low: uint64(many)}) {
					t.Errorf("%d, %d: the node %d has %+v, not %+v", behind, many, i, got.Marks, want.Marks)
				}
			}
		}
	}
}

// The whole of what clients saw, and of the blocks at the end, is as on one disk.
func TestWhatClientsSawWithTheBlocksBehindIt(t *testing.T) {
	for seed := range int64(40) {
		c := api.Config{Nodes: 3, Behind: 1 + int(seed)%6, Blocks: 4}
		w := watches(t, seed, c, map[string]int{})
		for range 600 {
			w.moves(history.Most-1, 2, 1)
		}
		w.calms()
		i, _ := w.g.Node(0).Image()
		l := append(w.g.Ops(), api.Op{Client: 1, Span: api.Span{Count: 4}, Data: i.Blocks, Begin: w.g.Clock(), End: w.g.Clock() + 1})
		if !history.Check(l, c.Blocks) {
			t.Errorf("%+v", l)
		}
		l[len(l)-1].Data = strings.Repeat("\xff", 32)
		if history.Check(l, c.Blocks) {
			t.Error("whatever the blocks are")
		}
	}
}
