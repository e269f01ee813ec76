package group_test

import (
	"fmt"
	"math/rand"
	"slices"
	"strings"
	"testing"

	"keelson/api"
	"keelson/device"
	"keelson/group"
	"keelson/node"
)

// A telling of its own: lines as lists of messages, requests as lists of what was asked, nodes as they are.

type asked struct {
	op  int
	msg api.Message
	end bool
}

type shadow struct {
	c                     api.Config
	devices               []*device.Device
	nodes                 []*node.Node
	lines                 [people * people][]api.Message
	cut                   map[int]bool
	sent, came, lost, two uint64
	clock                 int
	ops                   []api.Op
	asked                 [9][]asked // by client: those of its numbers, from 1 on
	guess                 [9]int
}

func newShadow(c api.Config) *shadow {
	s := &shadow{c: c, cut: map[int]bool{}}
	for i := range c.Nodes {
		d := device.New(node.Sectors(c))
		n, _ := node.Open(d, c, i)
		s.devices, s.nodes = append(s.devices, d), append(s.nodes, n)
	}
	return s
}

func (s *shadow) send(l ...api.Message) {
	for _, m := range l {
		link := m.From*people + m.To
		s.sent++
		if s.cut[link] || len(s.lines[link]) == api.MaxBag {
			s.lost++
			continue
		}
		s.lines[link] = append(s.lines[link], m)
	}
}

func (s *shadow) do(a api.Act) api.Errno {
	s.clock++
	switch a.Kind {
	case api.ActDeliver, api.ActDrop, api.ActDouble:
		return s.onLine(a)
	case api.ActCut:
		if a.B < 0 || a.B > 255 {
			return api.ErrRange
		}
		s.cut[a.B], s.cut[a.B%16*16+a.B/16] = true, true
		return api.OK
	case api.ActHeal:
		s.cut = map[int]bool{}
		return api.OK
	case api.ActTimer, api.ActFuse, api.ActCrash, api.ActStart, api.ActSave:
		return s.onNode(a)
	case api.ActWrite, api.ActRead, api.ActAsk:
		return s.ofClient(a)
	}
	return api.ErrArg
}

func (s *shadow) onLine(a api.Act) api.Errno {
	if a.B < 0 || a.B > 255 {
		return api.ErrRange
	}
	l := s.lines[a.B]
	switch {
	case a.Kind == api.ActDeliver && s.cut[a.B]:
		return api.ErrState
	case a.A < 0 || a.A >= len(l):
		return api.ErrNone
	case a.Kind == api.ActDouble && len(l) == api.MaxBag:
		return api.ErrFull
	case a.Kind == api.ActDouble:
		s.lines[a.B] = append(l, l[a.A])
		s.two++
		return api.OK
	}
	m := l[a.A]
	s.lines[a.B] = append(slices.Clone(l[:a.A]), l[a.A+1:]...)
	if a.Kind == api.ActDrop {
		s.lost++
		return api.OK
	}
	s.came++
	switch to := a.B % 16; {
	case to < len(s.nodes) && s.nodes[to] != nil:
		s.send(s.nodes[to].Take(m)...)
	case to > 7:
		s.told(to-7, m)
	}
	return api.OK
}

func (s *shadow) told(client int, m api.Message) {
	if m.Code == int(api.ErrLead) && m.Index != 0 {
		s.guess[client] = int(m.Index) - 1
	}
	x := &s.asked[client][m.Req-1]
	if m.Code != 0 || x.end {
		return
	}
	x.end = true
	s.ops[x.op].End = s.clock
	if x.msg.Kind == api.MsgRead {
		s.ops[x.op].Data = m.Data
	}
}

func (s *shadow) onNode(a api.Act) api.Errno {
	if a.A < 0 || a.A >= s.c.Nodes {
		return api.ErrArg
	}
	n, d := s.nodes[a.A], s.devices[a.A]
	if a.Kind == api.ActStart {
		if n != nil {
			return api.ErrThere
		}
		var e api.Errno
		s.nodes[a.A], e = node.Open(d, s.c, a.A)
		return e
	}
	if n == nil {
		return api.ErrDown
	}
	switch a.Kind {
	case api.ActTimer:
		s.send(n.Timer()...)
	case api.ActSave:
		return n.Save()
	case api.ActFuse:
		d.Fuse(a.B)
	case api.ActCrash:
		d.Crash(a.Keep...)
		s.nodes[a.A] = nil
	}
	return api.OK
}

func (s *shadow) ofClient(a api.Act) api.Errno {
	if a.A < 1 || a.A > 8 {
		return api.ErrArg
	}
	mine := s.asked[a.A]
	if a.Kind == api.ActAsk {
		switch {
		case a.B < 0 || a.B >= s.c.Nodes:
			return api.ErrArg
		case a.C < 1 || a.C > len(mine):
			return api.ErrNone
		case mine[a.C-1].end:
			return api.ErrState
		}
		m := mine[a.C-1].msg
		m.To = a.B
		s.send(m)
		return api.OK
	}
	count := a.C
	if a.Kind == api.ActWrite {
		count = len(a.Data) / 8
	}
	if a.B < 0 || a.C < 0 || a.Kind == api.ActWrite && len(a.Data)%8 != 0 || count < 1 || count > 8 || a.B > 64 || a.B+count > int(s.c.Blocks) {
		return api.ErrRange
	}
	first := slices.IndexFunc(mine, func(x asked) bool { return !x.end })
	if first >= 0 && len(mine)+1-(first+1) >= 8 {
		return api.ErrBusy
	}
	span := api.Span{From: uint32(a.B), Count: uint32(count)}
	m := api.Message{Kind: api.MsgRead, From: 7 + a.A, To: s.guess[a.A], Client: uint64(a.A), Req: uint64(len(mine) + 1), Span: span}
	o := api.Op{Client: uint64(a.A), Span: span, Begin: s.clock}
	if a.Kind == api.ActWrite {
		m.Kind, m.Data, o.Write, o.Data = api.MsgWrite, a.Data, true, a.Data
	}
	s.asked[a.A] = append(mine, asked{op: len(s.ops), msg: m})
	s.ops = append(s.ops, o)
	s.send(m)
	return api.OK
}

// same checks a group against what is told of it.
func (s *shadow) same(t *testing.T, what string, g *group.Group) {
	t.Helper()
	if g.Clock() != s.clock || !slices.Equal(g.Ops(), s.ops) {
		t.Fatalf("%s: %d, %+v, not %d, %+v", what, g.Clock(), g.Ops(), s.clock, s.ops)
	}
	for client := range uint64(10) {
		var want []uint64
		if client > 0 && client < 9 {
			for i, x := range s.asked[client] {
				if !x.end {
					want = append(want, uint64(i+1))
				}
			}
		}
		if got := g.Waits(client); !slices.Equal(got, want) {
			t.Fatalf("%s: %d waits for %v, not %v", what, client, got, want)
		}
	}
	l := g.Links()
	way := uint64(0)
	for link, want := range s.lines {
		if l.Len(link) != len(want) || l.Up(link/16, link%16) == s.cut[link] {
			t.Fatalf("%s: on %d are %d, not %d", what, link, l.Len(link), len(want))
		}
		way += uint64(len(want))
	}
	if a, b, c, d, e := l.Counts(); [5]uint64{a, b, c, d, e} != [5]uint64{s.sent, s.came, s.lost, s.two, way} {
		t.Fatal(what, a, b, c, d, e, s.sent, s.came, s.lost, s.two, way)
	}
	for i := range s.nodes {
		if got, want := about(g.Node(i)), about(s.nodes[i]); got != want {
			t.Fatalf("%s: the node %d is\n%s\nnot\n%s", what, i, got, want)
		}
		if g.Loose(i) != s.devices[i].Loose() {
			t.Fatal(what, i, g.Loose(i))
		}
	}
}

// anything is an act that may be one.
func anything(r *rand.Rand, s *shadow) api.Act {
	odd := []int{-1, 0, 1, 2, 3, 7, 8, 9, 15, 16, 255, 256, r.Int(), -r.Int()}
	a := api.Act{Kind: 1 + r.Intn(13), A: r.Intn(s.c.Nodes), B: r.Intn(8), C: r.Intn(10)}
	if k := r.Intn(20); k < 11 {
		a.Kind = api.ActDeliver
	} else if k < 15 {
		a.Kind = []int{api.ActWrite, api.ActRead, api.ActAsk}[r.Intn(3)]
	} else if k < 17 {
		a.Kind = []int{api.ActHeal, api.ActStart}[r.Intn(2)]
	}
	switch a.Kind {
	case api.ActDeliver, api.ActDrop, api.ActDouble:
		for range 20 {
			if a.B = r.Intn(256); len(s.lines[a.B]) > 0 {
				a.A = r.Intn(min(2, len(s.lines[a.B])))
				break
			}
		}
		for link := 255; link >= 0 && len(s.lines[a.B]) == 0; link-- {
			a.A, a.B = 0, link
		}
	case api.ActCut:
		a.B = r.Intn(256)
	case api.ActFuse:
		a.B = r.Intn(30)
	case api.ActCrash:
		for range r.Intn(8) {
			a.Keep = append(a.Keep, r.Intn(70)-3)
		}
	case api.ActWrite, api.ActRead, api.ActAsk:
		a.A = 1 + r.Intn(3)
		if n := len(s.asked[a.A]); a.Kind == api.ActAsk && n > 0 {
			a.B, a.C = r.Intn(s.c.Nodes), n-r.Intn(min(n, 10))
		} else if a.Kind == api.ActWrite {
			a.Data, a.C = strings.Repeat(string(rune('a'+r.Intn(26))), 8+8*r.Intn(2)), 0
		}
	}
	if r.Intn(15) == 0 {
		*[]*int{&a.Kind, &a.A, &a.B, &a.C}[r.Intn(4)] = odd[r.Intn(len(odd))]
	}
	if a.Kind == api.ActWrite && r.Intn(15) == 0 {
		a.Data = strings.Repeat("x", r.Intn(90))
	}
	return a
}

func TestActByAct(t *testing.T) {
	codes, ended := map[api.Errno]int{}, 0
	for seed := range int64(40) {
		r := rand.New(rand.NewSource(seed))
		c := api.Config{Nodes: []int{3, 5, 7}[r.Intn(3)], Behind: 1 + r.Intn(5), Blocks: uint32(1 + r.Intn(10))}
		g, s := group.New(c), newShadow(c)
		for range 500 {
			a := anything(r, s)
			got, want := g.Do(a), s.do(a)
			codes[want]++
			is(t, fmt.Sprintf("%+v", a), got, want)
			s.same(t, fmt.Sprintf("seed %d, %+v", seed, a), g)
		}
		most := r.Intn(200)
		before := s.clock
		for k := 0; k < most; k++ {
			link := slices.IndexFunc(linksOf(s), func(up bool) bool { return up })
			if link < 0 {
				break
			}
			s.do(api.Act{Kind: api.ActDeliver, B: link})
		}
		if got, want := g.Settle(most), !slices.Contains(linksOf(s), true); got != want {
			t.Errorf("settled: %t, not %t", got, want)
		}
		s.same(t, fmt.Sprintf("seed %d, %d times from %d on", seed, most, before), g)
		for _, o := range s.ops {
			ended += min(o.End, 1)
		}
	}
	for _, e := range []api.Errno{api.OK, api.ErrArg, api.ErrRange, api.ErrNone, api.ErrThere, api.ErrDown, api.ErrState, api.ErrBusy} {
		if codes[e] < 20 {
			t.Error("too few:", int(e), codes)
		}
	}
	if ended < 50 {
		t.Error("too few ended:", ended)
	}
}

// linksOf tells of which links something may come.
func linksOf(s *shadow) []bool {
	var l []bool
	for link, way := range s.lines {
		l = append(l, len(way) > 0 && !s.cut[link])
	}
	return l
}
