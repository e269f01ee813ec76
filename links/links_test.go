package links_test

import (
	"math"
	"math/rand"
	"slices"
	"strings"
	"testing"

	"keelson/api"
	"keelson/links"
	"keelson/wire"
)

const most = 16 // who may speak

// beyond is what is none of n numbers from 0 on.
func beyond(n int) []int {
	return []int{math.MinInt, math.MinInt + 1, -1 << 32, -n - 1, -n, -2, -1, n, n + 1, 2 * n, most * most, 1 << 32, 1<<32 + 1, math.MaxInt - 1, math.MaxInt}
}

// counts is what Counts tells, in its order.
type counts struct {
	sent, came, lost, doubled, way uint64
}

// model is lines as the tests tell them: of each pair the numbers of the messages that are on its link, and whether it is cut.
type model struct {
	people int
	on     map[[2]int][]int
	cut    map[[2]int]bool
	counts
}

func newModel(people int) *model {
	return &model{people: people, on: map[[2]int][]int{}, cut: map[[2]int]bool{}}
}

// pair tells whose link it is.
func (m *model) pair(link int) ([2]int, bool) {
	for a := range m.people {
		for b := range m.people {
			if link == a*m.people+b {
				return [2]int{a, b}, true
			}
		}
	}
	return [2]int{}, false
}

func (m *model) has(a, b int) bool {
	return a >= 0 && b >= 0 && a < m.people && b < m.people
}

func (m *model) send(a, b, n int) bool {
	m.sent++
	p := [2]int{a, b}
	if !m.has(a, b) || m.cut[p] || len(m.on[p]) == api.MaxBag {
		m.lost++
		return false
	}
	m.on[p] = append(m.on[p], n)
	m.way++
	return true
}

func (m *model) out(link, i int, cutMatters bool) (int, api.Errno) {
	p, ok := m.pair(link)
	switch {
	case !ok:
		return 0, api.ErrRange
	case cutMatters && m.cut[p]:
		return 0, api.ErrState
	case i < 0 || i >= len(m.on[p]):
		return 0, api.ErrNone
	}
	n := m.on[p][i]
	m.on[p] = slices.Delete(slices.Clone(m.on[p]), i, i+1)
	m.way--
	return n, api.OK
}

func (m *model) take(link, i int) (int, api.Errno) {
	n, e := m.out(link, i, true)
	if e == api.OK {
		m.came++
	}
	return n, e
}

func (m *model) drop(link, i int) api.Errno {
	_, e := m.out(link, i, false)
	if e == api.OK {
		m.lost++
	}
	return e
}

func (m *model) double(link, i int) api.Errno {
	p, ok := m.pair(link)
	switch {
	case !ok:
		return api.ErrRange
	case i < 0 || i >= len(m.on[p]):
		return api.ErrNone
	case len(m.on[p]) == api.MaxBag:
		return api.ErrFull
	}
	m.on[p] = append(m.on[p], m.on[p][i])
	m.doubled++
	m.way++
	return api.OK
}

func (m *model) cutBoth(a, b int) api.Errno {
	if !m.has(a, b) {
		return api.ErrRange
	}
	m.cut[[2]int{a, b}], m.cut[[2]int{b, a}] = true, true
	return api.OK
}

func (m *model) next() (int, bool) {
	for a := range m.people {
		for b := range m.people {
			if p := [2]int{a, b}; !m.cut[p] && len(m.on[p]) > 0 {
				return a*m.people + b, true
			}
		}
	}
	return 0, false
}

func (m *model) clear() int {
	n := int(m.way)
	m.lost += m.way
	m.way = 0
	clear(m.on)
	return n
}

func (m *model) clone() *model {
	c := newModel(m.people)
	c.counts = m.counts
	for p, l := range m.on {
		c.on[p] = slices.Clone(l)
	}
	for p, cut := range m.cut {
		c.cut[p] = cut
	}
	return c
}

// both is lines, and the model that must tell the same.
type both struct {
	t *testing.T
	l *links.Links
	m *model
}

func start(t *testing.T, people int) *both {
	t.Helper()
	l := links.New(people)
	if l == nil {
		t.Fatalf("no lines of %d", people)
	}
	return &both{t, l, newModel(people)}
}

// numbered is a message that another one of the same two is not like, but by the same number.
func numbered(a, b, n int) api.Message {
	return api.Message{Kind: api.MsgBeat, From: a, To: b, Term: 3, Round: uint64(n)}
}

func is(t *testing.T, what string, got, want api.Errno) {
	t.Helper()
	if got != want {
		t.Errorf("%s: %d, not %d", what, int(got), int(want))
	}
}

func tells(t *testing.T, what string, got, want bool) {
	t.Helper()
	if got != want {
		t.Errorf("%s: %v", what, got)
	}
}

func (b *both) send(from, to, n int) {
	b.t.Helper()
	tells(b.t, "Send", b.l.Send(numbered(from, to, n)), b.m.send(from, to, n))
}

func (b *both) take(link, i int) {
	b.t.Helper()
	n, want := b.m.take(link, i)
	got, e := b.l.Take(link, i)
	is(b.t, "Take", e, want)
	message := api.Message{}
	if want == api.OK {
		p, _ := b.m.pair(link)
		message = numbered(p[0], p[1], n)
	}
	if !wire.Same(got, message) {
		b.t.Errorf("Take(%d, %d): %+v, not %+v", link, i, got, message)
	}
}

func (b *both) drop(link, i int) {
	b.t.Helper()
	is(b.t, "Drop", b.l.Drop(link, i), b.m.drop(link, i))
}

func (b *both) double(link, i int) {
	b.t.Helper()
	is(b.t, "Double", b.l.Double(link, i), b.m.double(link, i))
}

func (b *both) cut(x, y int) {
	b.t.Helper()
	is(b.t, "Cut", b.l.Cut(x, y), b.m.cutBoth(x, y))
}

func (b *both) heal() {
	b.l.Heal()
	clear(b.m.cut)
}

func (b *both) clear() {
	b.t.Helper()
	if got, want := b.l.Clear(), b.m.clear(); got != want {
		b.t.Errorf("Clear: %d, not %d", got, want)
	}
}

func (b *both) clone() *both {
	return &both{b.t, b.l.Clone(), b.m.clone()}
}

// agrees tells whether all that asks says the same as the model.
func (b *both) agrees(what string) {
	b.t.Helper()
	for x := -1; x <= b.m.people; x++ {
		for y := -1; y <= b.m.people; y++ {
			p := [2]int{x, y}
			tells(b.t, what+": Up", b.l.Up(x, y), b.m.has(x, y) && !b.m.cut[p])
		}
	}
	for link := -1; link <= b.m.people*b.m.people; link++ {
		p, ok := b.m.pair(link)
		want := 0
		if ok {
			want = len(b.m.on[p])
		}
		if got := b.l.Len(link); got != want {
			b.t.Errorf("%s: Len(%d): %d, not %d", what, link, got, want)
		}
	}
	link, ok := b.l.Next()
	wantLink, wantOK := b.m.next()
	if link != wantLink || ok != wantOK {
		b.t.Errorf("%s: Next: %d, %v, not %d, %v", what, link, ok, wantLink, wantOK)
	}
	b.counted(what)
}

func (b *both) counted(what string) {
	b.t.Helper()
	var got counts
	got.sent, got.came, got.lost, got.doubled, got.way = b.l.Counts()
	if got != b.m.counts {
		b.t.Errorf("%s: %+v, not %+v", what, got, b.m.counts)
	}
	if got.sent+got.doubled != got.came+got.lost+got.way {
		b.t.Errorf("%s: %+v don't add up", what, got)
	}
}

// holds tells whether just what the model has is under way: it is taken from a clone.
func (b *both) holds(what string) {
	b.t.Helper()
	b.agrees(what)
	c := b.clone()
	c.heal()
	for link := range c.m.people * c.m.people {
		for c.l.Len(link) > 0 && !c.t.Failed() {
			c.take(link, 0)
		}
		c.take(link, 0)
	}
	c.agrees(what + ", taken")
	b.agrees(what + ", and a clone taken")
}

// P19.1

func TestNew(t *testing.T) {
	for n := -20; n <= 40; n++ {
		tells(t, "New", links.New(n) != nil, n >= 1 && n <= most)
	}
	for _, n := range []int{math.MinInt, math.MaxInt, -1 << 32, 1<<32 + 1, 1<<16 + 3, 1<<8 + 3, api.MaxNodes + api.MaxClients + 2} {
		tells(t, "New", links.New(n) != nil, false)
	}
	for _, n := range []int{1, 2, 3, api.MaxNodes + api.MaxClients + 1} {
		b := start(t, n)
		b.holds("new lines")
	}
}

func TestLink(t *testing.T) {
	for _, people := range []int{1, 2, 3, 5, 15, 16} {
		l := links.New(people)
		for a := range people {
			for b := range people {
				if got := l.Link(a, b); got != a*people+b {
					t.Errorf("Link(%d, %d) of %d: %d", a, b, people, got)
				}
			}
			for _, none := range beyond(people) {
				if l.Link(a, none) != -1 || l.Link(none, a) != -1 || l.Link(none, none) != -1 {
					t.Errorf("Link of %d and %d of %d", a, none, people)
				}
			}
		}
		l.Cut(0, people-1)
		if l.Link(0, people-1) != people-1 {
			t.Error("a link that is cut has another number")
		}
	}
}

func TestSendOrder(t *testing.T) {
	b := start(t, 3)
	for n := range 5 {
		b.send(0, 2, n)
		b.agrees("one more")
		b.send(2, 0, 10+n)
		b.send(1, 1, 20+n)
	}
	b.holds("some that were sent")
}

func TestSendOfWhoDoesNotSpeak(t *testing.T) {
	for _, people := range []int{1, 3, most} {
		b := start(t, people)
		b.send(0, people-1, 1)
		for _, none := range beyond(people) {
			b.send(none, 0, 2)
			b.send(0, none, 3)
			b.send(none, none, 4)
			b.agrees("sent by, and to, who doesn't speak")
		}
		b.send(people-1, 0, 5)
		b.holds("sent by, and to, who doesn't speak")
	}
}

func TestSendWhileCut(t *testing.T) {
	b := start(t, 3)
	b.send(0, 1, 1)
	b.cut(1, 0)
	for n := range 3 {
		b.send(0, 1, 10+n)
		b.send(1, 0, 20+n)
		b.send(0, 2, 30+n)
		b.agrees("sent while two are cut")
	}
	b.heal()
	b.send(0, 1, 2)
	b.holds("sent while two were cut")
}

// unmade are messages of which wire makes nothing.
func unmade() map[string]api.Message {
	m := map[string]api.Message{
		"no kind":        {},
		"kind -1":        {Kind: -1},
		"kind 11":        {Kind: 11},
		"kind 259":       {Kind: 259},
		"code -1":        {Kind: 1, Code: -1},
		"code 256":       {Kind: 1, Code: 256},
		"long data":      {Kind: 1, Data: strings.Repeat("d", api.MaxText+1)},
		"256 entries":    {Kind: 1, Entries: make([]api.Entry, 256)},
		"a wrong entry":  {Kind: 1, Entries: []api.Entry{{}, {Kind: 256}}},
		"a long message": {Kind: 1},
	}
	long := m["a long message"]
	for range 33 {
		long.Entries = append(long.Entries, api.Entry{Data: strings.Repeat("e", api.MaxText)})
	}
	m["a long message"] = long
	return m
}

func TestSendOfWhatCanNotBeMade(t *testing.T) {
	b := start(t, 2)
	b.send(0, 1, 1)
	for name, m := range unmade() {
		m.From, m.To = 0, 1
		if _, e := wire.Make(m); e == api.OK {
			t.Fatalf("%s can be made", name)
		}
		tells(t, name, b.l.Send(m), false)
		b.m.sent++
		b.m.lost++
		b.agrees(name)
	}
	b.send(0, 1, 2)
	b.holds("some that can't be made")
}

// filled is lines on whose link from 0 to 1 there are as many as may be.
func filled(t *testing.T) *both {
	t.Helper()
	b := start(t, 2)
	for n := range api.MaxBag {
		b.send(0, 1, n)
	}
	if b.l.Len(1) != api.MaxBag {
		t.Fatalf("%d on it", b.l.Len(1))
	}
	return b
}

func TestSendUntilFull(t *testing.T) {
	b := filled(t)
	for n := range 3 {
		b.send(0, 1, 1000+n)
		b.agrees("a full link")
	}
	b.send(1, 0, 5)
	b.holds("a full link")
	b.take(1, 7)
	b.send(0, 1, 2000)
	b.send(0, 1, 2001)
	b.holds("a link that is full again")
	b.drop(1, 0)
	b.send(0, 1, 2002)
	b.send(0, 1, 2003)
	b.holds("a link that is full once more")
}

func TestAllLinksFull(t *testing.T) {
	b := start(t, 3)
	for from := range 3 {
		for to := range 3 {
			for n := range api.MaxBag + 1 {
				b.send(from, to, 1000*from+n)
			}
		}
	}
	b.holds("all links full")
	b.clear()
	b.holds("all links cleared")
}

// full is a message, each field of which says something.
func full(from, to int) api.Message {
	return api.Message{
		Kind: api.MsgAppend, From: from, To: to, Term: 0x0102030405060708, Index: 11, Low: 12, Bits: 1<<63 | 5, Round: 13, Yes: true,
		Client: 14, Req: 15, Span: api.Span{From: 0xa1b2c3d4, Count: 3}, Code: 200, Data: "some data",
		Entries: []api.Entry{
			{
				Index: 9, Term: 3, Start: 7, Kind: api.KindWrite, Client: 2, Req: 5, Span: api.Span{From: 4, Count: 2}, Data: "0123456789abcdef",
				Behind: []api.Look{{Client: 1, Req: 8, Span: api.Span{From: 1, Count: 1}}, {}},
			},
			{Index: 5, Term: 2, Start: 3, Kind: api.KindNoop},
		},
	}
}

func TestAllOfAMessageComes(t *testing.T) {
	for _, people := range []int{1, 3, most} {
		l := links.New(people)
		for from := range people {
			for to := range people {
				tells(t, "Send", l.Send(full(from, to)), true)
				m, e := l.Take(from*people+to, 0)
				is(t, "Take", e, api.OK)
				if !wire.Same(m, full(from, to)) {
					t.Errorf("from %d to %d: %+v", from, to, m)
				}
			}
		}
	}
	l := links.New(2)
	long := api.Message{Kind: api.MsgSnap, To: 1, Data: strings.Repeat("\x00\xff", api.MaxText/2)}
	for kind := api.MsgVote; kind <= api.MsgAnswer; kind++ {
		long.Kind = kind
		tells(t, "Send", l.Send(long), true)
	}
	for kind := api.MsgVote; kind <= api.MsgAnswer; kind++ {
		long.Kind = kind
		if m, e := l.Take(1, 0); e != api.OK || !wire.Same(m, long) {
			t.Errorf("the kind %d: %d", kind, int(e))
		}
	}
}

// What is on a link is neither who sent it's, nor who took it's.
func TestWhatIsUnderWayIsNobodys(t *testing.T) {
	l := links.New(2)
	m := full(0, 1)
	spare := slices.Grow(m.Entries, 4)
	m.Entries = spare
	l.Send(m)
	is(t, "Double", l.Double(1, 0), api.OK)
	c := l.Clone()
	if !wire.Same(m, full(0, 1)) || spare[:3][2].Index != 0 {
		t.Error("what was handed in is changed")
	}
	spoil := func(m api.Message) {
		m.Entries[0].Behind[0].Req = 99
		m.Entries[0].Index = 98
		m.Entries[1] = api.Entry{}
	}
	spoil(m)
	for _, x := range []*links.Links{l, c} {
		for range 2 {
			got, e := x.Take(1, 0)
			is(t, "Take", e, api.OK)
			if !wire.Same(got, full(0, 1)) {
				t.Errorf("%+v", got)
			}
			spoil(got)
		}
	}
}

func TestLen(t *testing.T) {
	for _, people := range []int{1, 3, most} {
		b := start(t, people)
		last := people*people - 1
		b.send(people-1, people-1, 1)
		b.send(people-1, people-1, 2)
		if n := b.l.Len(last); n != 2 {
			t.Errorf("%d on the last link of %d", n, people)
		}
		for _, none := range beyond(people * people) {
			if n := b.l.Len(none); n != 0 {
				t.Errorf("%d on the link %d of %d", n, none, people)
			}
		}
		b.cut(people-1, people-1)
		if n := b.l.Len(last); n != 2 {
			t.Errorf("%d on the last link of %d, which is cut", n, people)
		}
	}
}

// P19.2

// acts are the three that ask for one on a link.
func acts() map[string]func(b *both, link, i int) {
	return map[string]func(b *both, link, i int){"Take": (*both).take, "Drop": (*both).drop, "Double": (*both).double}
}

func TestNoSuchLink(t *testing.T) {
	for name, act := range acts() {
		for _, people := range []int{1, 3, most} {
			b := start(t, people)
			for n := range 3 {
				b.send(0, 0, n)
				b.send(people-1, people-1, 10+n)
			}
			for _, none := range beyond(people * people) {
				for _, i := range []int{-1, 0, 1, 9} {
					act(b, none, i)
				}
			}
			b.holds(name + " of no link")
			act(b, people*people-1, 0)
			b.holds(name + " of the last link")
		}
	}
}

func TestOneOfALink(t *testing.T) {
	for name, act := range acts() {
		for n := range 5 {
			for _, cut := range []bool{false, true} {
				for _, i := range append(beyond(n), 0, 1, n-2, n-1) {
					b := start(t, 3)
					for k := range n {
						b.send(1, 2, k)
						b.send(2, 1, 10+k)
					}
					if cut {
						b.cut(2, 1)
					}
					act(b, b.l.Link(1, 2), i)
					b.holds(name)
					act(b, b.l.Link(1, 2), i)
					act(b, b.l.Link(2, 1), 0)
					b.holds(name + " once more")
					b.heal()
					act(b, b.l.Link(1, 2), i)
					b.holds(name + " once more, healed")
				}
			}
		}
	}
}

func TestExample(t *testing.T) {
	b := start(t, 3)
	b.send(0, 2, 1)
	is(t, "Cut", b.l.Cut(2, 0), api.OK)
	m, e := b.l.Take(b.l.Link(0, 2), 0)
	is(t, "Take", e, api.ErrState)
	if !wire.Same(m, api.Message{}) {
		t.Errorf("%+v", m)
	}
	if b.l.Len(2) != 1 {
		t.Error("it is on it no more")
	}
}

// Which error is named first, where several apply.
func TestTakeWhichError(t *testing.T) {
	b := start(t, 2)
	b.cut(0, 1)
	for _, i := range []int{-1, 0, 1, math.MaxInt} {
		_, e := b.l.Take(1, i)
		is(t, "cut, and nothing on it", e, api.ErrState)
		_, e = b.l.Take(0, i)
		is(t, "nothing on it", e, api.ErrNone)
		_, e = b.l.Take(4, i)
		is(t, "no link, and nothing on it", e, api.ErrRange)
		is(t, "Drop, cut, and nothing on it", b.l.Drop(1, i), api.ErrNone)
		is(t, "Double, cut, and nothing on it", b.l.Double(1, i), api.ErrNone)
	}
	b.agrees("errors alone")
}

func TestDoubleFull(t *testing.T) {
	b := filled(t)
	for _, cut := range []bool{false, true} {
		if cut {
			b.cut(0, 1)
		}
		for _, i := range []int{0, 1, api.MaxBag - 1} {
			is(t, "Double on a full link", b.l.Double(1, i), api.ErrFull)
		}
		for _, i := range []int{-1, api.MaxBag, api.MaxBag + 1} {
			is(t, "Double of none on a full link", b.l.Double(1, i), api.ErrNone)
		}
		b.holds("a full link, of which nothing is doubled, and nothing lost")
	}
	b.drop(1, 3)
	b.double(1, 254)
	b.double(1, 0)
	b.holds("a full link, the last of which is a copy")
}

func TestDoubleUntilFull(t *testing.T) {
	b := start(t, 2)
	b.send(1, 0, 7)
	for range api.MaxBag + 2 {
		b.double(2, 0)
	}
	b.holds("a link that is full of copies")
	if _, _, _, doubled, _ := b.l.Counts(); doubled != api.MaxBag-1 {
		t.Errorf("%d doubled", doubled)
	}
}

// P19.3

func TestCutOfNoLink(t *testing.T) {
	for _, people := range []int{1, 3, most} {
		b := start(t, people)
		for _, none := range beyond(people) {
			for who := range people {
				b.cut(none, who)
				b.cut(who, none)
			}
			b.cut(none, none)
		}
		b.holds("nothing cut")
	}
}

func TestCutIsBothWays(t *testing.T) {
	for x := range 4 {
		for y := range 4 {
			b := start(t, 4)
			for from := range 4 {
				for to := range 4 {
					b.send(from, to, 10*from+to)
				}
			}
			b.cut(x, y)
			b.holds("two cut")
			b.cut(x, y)
			b.cut(y, x)
			b.holds("two cut twice")
			for link := range 16 {
				b.take(link, 0)
			}
			b.holds("all taken that comes")
			b.heal()
			b.holds("two healed")
			b.take(b.l.Link(x, y), 0)
			b.take(b.l.Link(y, x), 0)
			b.holds("all taken")
		}
	}
}

func TestHeal(t *testing.T) {
	b := start(t, 4)
	b.heal()
	b.holds("none healed")
	for _, p := range [][2]int{{0, 1}, {3, 2}, {2, 2}, {0, 3}} {
		b.send(p[0], p[1], 5)
		b.cut(p[0], p[1])
	}
	b.holds("several cut")
	b.heal()
	b.holds("several healed")
	b.heal()
	b.cut(1, 2)
	b.holds("cut once more")
	b.heal()
	b.holds("healed once more")
}

func TestUp(t *testing.T) {
	b := start(t, most)
	for _, none := range beyond(most) {
		for who := range most {
			if b.l.Up(none, who) || b.l.Up(who, none) || b.l.Up(none, none) {
				t.Errorf("%d and %d", none, who)
			}
		}
	}
	for x := range most {
		b.cut(x, (x*x+3)%most)
		b.agrees("some cut")
	}
	b.heal()
	b.agrees("all healed")
}

func TestNext(t *testing.T) {
	b := start(t, 3)
	next := func(what string, wantLink int, want bool) {
		t.Helper()
		if link, ok := b.l.Next(); link != wantLink || ok != want {
			t.Errorf("%s: %d, %v", what, link, ok)
		}
	}
	next("nothing under way", 0, false)
	b.send(2, 2, 1)
	next("the last link", 8, true)
	next("the last link again", 8, true)
	b.send(1, 2, 2)
	b.send(0, 1, 3)
	b.send(0, 0, 4)
	next("the link 0", 0, true)
	b.cut(0, 0)
	next("the link 0 being cut", 1, true)
	b.cut(1, 0)
	next("the first two being cut", 5, true)
	b.cut(2, 1)
	next("but one all being cut", 8, true)
	b.cut(2, 2)
	next("things on cut links alone", 0, false)
	b.heal()
	next("healed", 0, true)
	b.drop(0, 0)
	next("one dropped", 1, true)
	b.take(1, 0)
	next("one taken", 5, true)
	b.clear()
	next("cleared", 0, false)
	b.holds("all that was asked for")
}

// Who goes by Next alone comes to an end, and has taken all that isn't cut, link by link.
func TestNextUntilNone(t *testing.T) {
	b := start(t, 4)
	n := 0
	for from := range 4 {
		for to := range 4 {
			for range (from + 2*to) % 3 {
				b.send(from, to, n)
				n++
			}
		}
	}
	b.cut(1, 2)
	last, steps := -1, 0
	for link, ok := b.l.Next(); ok; link, ok = b.l.Next() {
		if link < last || steps > n {
			t.Fatalf("%d behind %d", link, last)
		}
		b.take(link, 0)
		last = link
		steps++
	}
	b.holds("all taken that comes")
}

func TestClear(t *testing.T) {
	b := start(t, 3)
	b.clear()
	b.holds("nothing cleared")
	for n := range 3 {
		b.send(0, 1, n)
		b.send(2, 0, n)
		b.send(1, 1, n)
	}
	b.double(b.l.Link(2, 0), 1)
	b.cut(2, 0)
	b.send(2, 0, 9)
	if n := b.l.Clone().Clear(); n != 10 {
		t.Errorf("Clear: %d", n)
	}
	b.clear()
	b.holds("several cleared, on cut links too")
	if b.l.Up(2, 0) {
		t.Error("healed by Clear")
	}
	b.clear()
	b.holds("cleared twice")
	for n := range api.MaxBag + 1 {
		b.send(0, 1, n)
	}
	b.holds("sent behind Clear")
}

func TestCounts(t *testing.T) {
	b := start(t, 3)
	want := func(what string, c counts) {
		t.Helper()
		var got counts
		got.sent, got.came, got.lost, got.doubled, got.way = b.l.Counts()
		if got != c {
			t.Errorf("%s: %+v, not %+v", what, got, c)
		}
	}
	want("nothing", counts{})
	b.send(0, 1, 1)
	want("sent", counts{sent: 1, way: 1})
	b.send(0, 3, 2)
	want("sent to nobody", counts{sent: 2, lost: 1, way: 1})
	b.double(1, 0)
	want("doubled", counts{sent: 2, lost: 1, doubled: 1, way: 2})
	b.double(1, 2)
	want("none doubled", counts{sent: 2, lost: 1, doubled: 1, way: 2})
	b.take(1, 1)
	want("taken", counts{sent: 2, came: 1, lost: 1, doubled: 1, way: 1})
	b.take(1, 1)
	want("none taken", counts{sent: 2, came: 1, lost: 1, doubled: 1, way: 1})
	b.drop(1, 0)
	want("dropped", counts{sent: 2, came: 1, lost: 2, doubled: 1})
	b.drop(1, 0)
	want("none dropped", counts{sent: 2, came: 1, lost: 2, doubled: 1})
	b.send(1, 2, 3)
	b.send(2, 1, 4)
	b.cut(1, 2)
	want("cut", counts{sent: 4, came: 1, lost: 2, doubled: 1, way: 2})
	b.send(1, 2, 5)
	want("sent while cut", counts{sent: 5, came: 1, lost: 3, doubled: 1, way: 2})
	b.double(5, 0)
	want("doubled while cut", counts{sent: 5, came: 1, lost: 3, doubled: 2, way: 3})
	b.drop(5, 0)
	want("dropped while cut", counts{sent: 5, came: 1, lost: 4, doubled: 2, way: 2})
	b.take(5, 0)
	want("not taken while cut", counts{sent: 5, came: 1, lost: 4, doubled: 2, way: 2})
	b.heal()
	want("healed", counts{sent: 5, came: 1, lost: 4, doubled: 2, way: 2})
	b.clear()
	want("cleared", counts{sent: 5, came: 1, lost: 6, doubled: 2})
}

func TestClone(t *testing.T) {
	b := start(t, 3)
	for n := range 4 {
		b.send(0, 1, n)
		b.send(1, 2, 10+n)
	}
	b.cut(1, 2)
	b.double(1, 2)
	b.take(1, 0)
	b.drop(1, 0)
	b.send(2, 1, 20)
	c := b.clone()
	c.holds("a clone")
	ways := []func(x *both){
		func(x *both) { x.send(0, 1, 77) },
		func(x *both) { x.take(1, 1) },
		func(x *both) { x.drop(5, 0) },
		func(x *both) { x.double(1, 0) },
		func(x *both) { x.cut(0, 2) },
		func(x *both) { x.send(0, 2, 78) },
		func(x *both) { x.heal() },
		func(x *both) { x.cut(1, 1) },
		func(x *both) { x.clear() },
	}
	for _, way := range ways {
		d := b.clone()
		way(d)
		d.holds("a clone that goes its own way")
		b.holds("one whose clone goes its own way")
	}
	for _, way := range ways {
		way(b)
		b.holds("one that goes its own way")
		c.holds("a clone of one that goes its own way")
	}
	f := filled(t).clone()
	f.send(0, 1, 5)
	f.double(1, 0)
	f.holds("a clone of a full one")
	start(t, most).clone().holds("a clone of a new one")
}

// hasNone tells whether l has no links at all, in each call: want is what those that answer an error answer.
func hasNone(t *testing.T, what string, l *links.Links, want api.Errno) {
	t.Helper()
	for range 2 {
		for _, x := range []int{math.MinInt, -1, 0, 1, 15, 16, math.MaxInt} {
			for _, i := range []int{-1, 0, 1} {
				m, e := l.Take(x, i)
				is(t, what+": Take", e, want)
				if !wire.Same(m, api.Message{}) {
					t.Errorf("%s: Take: %+v", what, m)
				}
				is(t, what+": Drop", l.Drop(x, i), want)
				is(t, what+": Double", l.Double(x, i), want)
				is(t, what+": Cut", l.Cut(x, i), want)
				is(t, what+": Cut", l.Cut(i, x), want)
				tells(t, what+": Send", l.Send(numbered(x, i, 1)), false)
				tells(t, what+": Send", l.Send(api.Message{From: x, To: i}), false)
				tells(t, what+": Up", l.Up(x, i), false)
				if l.Link(x, i) != -1 || l.Len(x) != 0 {
					t.Errorf("%s: Link: %d, Len: %d", what, l.Link(x, i), l.Len(x))
				}
			}
		}
		l.Heal()
		if link, ok := l.Next(); link != 0 || ok {
			t.Errorf("%s: Next: %d, %v", what, link, ok)
		}
		if n := l.Clear(); n != 0 {
			t.Errorf("%s: Clear: %d", what, n)
		}
		if sent, came, lost, doubled, way := l.Counts(); sent != lost || came != 0 || doubled != 0 || way != 0 {
			t.Errorf("%s: Counts: %d %d %d %d %d", what, sent, came, lost, doubled, way)
		}
	}
}

func TestNil(t *testing.T) {
	hasNone(t, "nil", nil, api.ErrNil)
	if sent, _, _, _, _ := (*links.Links)(nil).Counts(); sent != 0 {
		t.Errorf("%d sent by nil", sent)
	}
	if (*links.Links)(nil).Clone() != nil {
		t.Error("a clone of nil")
	}
}

// One that no call made has no links: all that is asked for is one that there is not.
func TestPlain(t *testing.T) {
	var plain links.Links
	hasNone(t, "a plain one", &plain, api.ErrRange)
	c := plain.Clone()
	if c == nil {
		t.Fatal("no clone of a plain one")
	}
	hasNone(t, "a clone of a plain one", c, api.ErrRange)
}

// P19.4

// random does one act of r's choice.
func (b *both) random(r *rand.Rand, n int) {
	b.t.Helper()
	who := func() int { return r.Intn(b.m.people+2) - 1 }
	link := func() int {
		if at, ok := b.m.next(); ok && r.Intn(3) > 0 {
			return at
		}
		return r.Intn(b.m.people*b.m.people+2) - 1
	}
	switch k := r.Intn(40); {
	case k < 16:
		b.send(who(), who(), n)
	case k < 24:
		b.take(link(), r.Intn(5)-1)
	case k < 27:
		b.drop(link(), r.Intn(5)-1)
	case k < 32:
		b.double(link(), r.Intn(5)-1)
	case k < 35:
		b.cut(who(), who())
	case k < 37:
		b.heal()
	case k < 38 && r.Intn(10) == 0:
		b.clear()
	default:
		c := b.clone()
		b.l, c.l = c.l, b.l
		c.send(0, 0, n)
		c.clear()
		c.cut(0, c.m.people-1)
	}
}

// Lines tell the same as a model that is kept beside them, step by step: what comes was sent, and what was sent, and doubled, came, was lost, or is under way.
func TestBesideAModel(t *testing.T) {
	for seed := range int64(80) {
		r := rand.New(rand.NewSource(seed))
		b := start(t, 1+int(seed)%5)
		if seed%20 == 19 {
			b = start(t, most)
		}
		for n := range 600 {
			b.random(r, n)
			b.counted("a step")
			if b.m.people < 4 {
				b.agrees("a step")
			}
			if n%60 == 0 {
				b.holds("some steps")
			}
			if t.Failed() {
				t.Fatalf("seed %d, step %d", seed, n)
			}
		}
		b.holds("all steps")
	}
}

// The same acts tell the same, however often they are done.
func TestSameAgain(t *testing.T) {
	do := func() []int {
		r := rand.New(rand.NewSource(5))
		b := start(t, 4)
		var told []int
		for n := range 400 {
			b.random(r, n)
			link, _ := b.l.Next()
			_, came, lost, doubled, way := b.l.Counts()
			told = append(told, link, int(came), int(lost), int(doubled), int(way))
		}
		return told
	}
	first := do()
	for range 5 {
		if !slices.Equal(first, do()) {
			t.Fatal("told otherwise")
		}
	}
}
