package node_test

import (
	"fmt"
	"maps"
	"math/bits"
	"math/rand"
	"slices"
	"strings"
	"testing"

	"keelson/api"
	"keelson/behind"
	"keelson/device"
	"keelson/done"
	"keelson/entry"
	"keelson/image"
	"keelson/merge"
	"keelson/node"
)

// A telling of its own: what a node is, as sets and lists alone, without a device.

type set map[uint64]bool

// waiting is a client's request. Of a read it has a round.
type waiting struct {
	client, req, index, round uint64
	span                      api.Span
}

type kept struct {
	low    uint64
	marked set
	blocks string
	done   done.Table
}

func (k kept) copy() kept {
	k.marked = maps.Clone(k.marked)
	return k
}

type tale struct {
	c     api.Config
	id    int
	term  uint64
	voted int // and 1
	role  int
	chief int // and 1

	now, safe kept
	held      map[uint64]api.Entry
	trimmed   uint64
	committed set // told in this term
	all       uint64
	fresh     []uint64

	base  uint64
	votes map[int][]api.Entry

	start, next uint64
	has, acked  []set
	round       uint64
	heard       []uint64
	waits       []waiting
}

func newTale(c api.Config, id int) *tale {
	k := kept{marked: set{}, blocks: strings.Repeat("\x00", int(c.Blocks)*8)}
	return &tale{c: c, id: id, now: k, safe: k.copy(), held: map[uint64]api.Entry{}, committed: set{}}
}

// marksOf tells a set as marks: all up to the first number that isn't there, and the 64 behind.
func marksOf(low uint64, has func(uint64) bool) api.Marks {
	for has(low + 1) {
		low++
	}
	m := api.Marks{Low: low}
	for k := range uint64(64) {
		if has(low + 1 + k) {
			m.Bits |= 1 << k
		}
	}
	return m
}

func (k kept) has(index uint64) bool { return index <= k.low || k.marked[index] }
func (k kept) marks() api.Marks      { return marksOf(k.low, k.has) }

func (k kept) image() image.Image {
	return image.Image{Marks: k.marks(), Blocks: k.blocks, Done: k.done}
}

// isCommitted tells whether it knows an index to be committed; as a leader within the room that marks have.
func (n *tale) isCommitted() func(uint64) bool {
	if n.role != node.Leader {
		return func(index uint64) bool { return index <= n.all || n.committed[index] }
	}
	most := func(index uint64) bool {
		count := 0
		for i := range n.c.Nodes {
			if n.has[i][index] {
				count++
			}
		}
		return index <= n.trimmed || 2*count > n.c.Nodes
	}
	m := marksOf(n.trimmed, most)
	return func(index uint64) bool { return index <= m.Low || index-m.Low <= 64 && m.Bits>>(index-m.Low-1)&1 == 1 }
}

func (n *tale) known() api.Marks { return marksOf(n.trimmed, n.isCommitted()) }

func (n *tale) says(to int, m api.Message) api.Message {
	m.From, m.To, m.Term = n.id, to, n.term
	return m
}

func (n *tale) toAll(m api.Message) []api.Message {
	var l []api.Message
	for i := range n.c.Nodes {
		if i != n.id {
			l = append(l, n.says(i, m))
		}
	}
	return l
}

func (n *tale) answer(client, req uint64, e api.Errno, data string) []api.Message {
	return []api.Message{n.says(8-1+int(client), api.Message{Kind: api.MsgAnswer, Client: client, Req: req, Code: int(e), Index: uint64(n.chief), Data: data})}
}

func (n *tale) follow(chief int) {
	n.role, n.chief, n.votes, n.waits = node.Follower, chief, nil, nil
}

func (n *tale) newTerm(term uint64, voted int) {
	n.follow(0)
	n.term, n.voted, n.committed, n.all = term, voted, set{}, 0
}

func (n *tale) save() {
	n.safe = n.now.copy()
	n.trimmed = n.now.low
	for index := range maps.Clone(n.held) {
		if index <= n.trimmed {
			delete(n.held, index)
		}
	}
}

// open is what is left of it behind a crash.
func (n *tale) open() {
	n.follow(0)
	n.now, n.committed, n.all, n.fresh = n.safe.copy(), set{}, 0, nil
}

func (n *tale) comesAgain(e api.Entry) bool {
	if e.Kind != api.KindWrite || n.now.has(e.Index) {
		return false
	}
	top := n.now.low
	for index := range n.now.marked {
		top = max(top, index)
	}
	t := n.now.done[e.Client-1]
	old := t.Top >= api.Keep && e.Req <= t.Top-api.Keep
	did := !old && e.Req <= t.Top && t.Bits>>(t.Top-e.Req)&1 == 1
	return did || old && e.Index > top
}

// apply does one by one the least that may be done.
func (n *tale) apply() []api.Message {
	is := n.isCommitted()
	count := len(n.fresh)
	for index := n.now.low + 1; index <= n.now.low+64; index++ {
		e, ok := n.held[index]
		if !ok || e.Term != n.term || !is(index) || n.now.has(index) || !n.may(e) {
			continue
		}
		n.now.marked[index] = true
		if e.Kind == api.KindWrite {
			from := 8 * int(e.Span.From)
			n.now.blocks = n.now.blocks[:from] + e.Data + n.now.blocks[from+len(e.Data):]
			n.now.done, _ = done.Add(n.now.done, e.Client, e.Req)
		}
		n.fresh = append(n.fresh, index)
		for n.now.marked[n.now.low+1] {
			n.now.low++
			delete(n.now.marked, n.now.low)
		}
		index = n.now.low // once more from the first one on
	}
	if len(n.fresh) > count && int(n.now.low-n.safe.low)+len(n.now.marked) >= n.c.Behind {
		n.save()
	}
	return n.release(func(w waiting) bool { return w.index != 0 && n.now.has(w.index) })
}

// may looks at all that was not applied ahead of an entry.
func (n *tale) may(e api.Entry) bool {
	for index := n.now.low + 1; index < e.Index; index++ {
		if n.now.has(index) {
			continue
		}
		k := int(e.Index - 1 - index)
		if k >= len(e.Behind) {
			return false
		}
		s := e.Behind[k].Span
		if s.From < e.Span.From+e.Span.Count && e.Span.From < s.From+s.Count {
			return false
		}
	}
	return true
}

func (n *tale) release(goes func(waiting) bool) []api.Message {
	var l []api.Message
	var stay []waiting
	for _, w := range n.waits {
		switch {
		case !goes(w):
			stay = append(stay, w)
		case w.index != 0:
			l = append(l, n.answer(w.client, w.req, api.OK, "")...)
		default:
			l = append(l, n.answer(w.client, w.req, api.OK, n.now.blocks[8*w.span.From:8*(w.span.From+w.span.Count)])...)
		}
	}
	n.waits = stay
	return l
}

func (n *tale) entries(goes func(api.Entry) bool) []api.Entry {
	var l []api.Entry
	for _, index := range slices.Sorted(maps.Keys(n.held)) {
		if goes(n.held[index]) {
			l = append(l, n.held[index])
		}
	}
	return l
}

func (n *tale) timer() []api.Message {
	n.fresh = nil
	if n.role == node.Leader {
		n.round++
		return n.beat()
	}
	if n.term >= api.MaxIndex {
		return nil
	}
	n.newTerm(n.term+1, n.id+1)
	n.role, n.base = node.Candidate, n.now.low
	n.votes = map[int][]api.Entry{n.id: n.entries(func(e api.Entry) bool { return e.Index > n.base && !n.comesAgain(e) })}
	return n.toAll(api.Message{Kind: api.MsgVote, Low: n.base})
}

func (n *tale) beat() []api.Message {
	m := n.known()
	return n.toAll(api.Message{Kind: api.MsgBeat, Round: n.round, Low: m.Low, Bits: m.Bits})
}

func (n *tale) carry(e api.Entry) api.Message {
	m := n.known()
	return api.Message{Kind: api.MsgAppend, Low: m.Low, Bits: m.Bits, Entries: []api.Entry{e}}
}

func (n *tale) take(m api.Message) []api.Message {
	n.fresh = nil
	switch {
	case m.From >= 0 && m.From < n.c.Nodes && m.From != n.id:
		return n.ofNode(m)
	case m.From > 7 && m.From <= 15 && uint64(m.From-7) == m.Client && (m.Kind == api.MsgWrite || m.Kind == api.MsgRead):
		return n.ofClient(m)
	}
	return nil
}

func (n *tale) ofNode(m api.Message) []api.Message {
	ofLeader := m.Kind == api.MsgAppend || m.Kind == api.MsgBeat || m.Kind == api.MsgSnap
	switch {
	case m.Term < n.term && m.Kind == api.MsgVote:
		return []api.Message{n.says(m.From, api.Message{Kind: api.MsgGrant})}
	case m.Term < n.term && ofLeader:
		return []api.Message{n.says(m.From, api.Message{Kind: api.MsgPulse})}
	case m.Term < n.term, m.Term > api.MaxIndex:
		return nil
	case m.Term > n.term:
		n.newTerm(m.Term, 0)
	}
	if ofLeader {
		return n.led(m)
	}
	switch {
	case m.Kind == api.MsgVote:
		if m.Low < n.trimmed || n.voted != 0 && n.voted != m.From+1 {
			return []api.Message{n.says(m.From, api.Message{Kind: api.MsgGrant})}
		}
		n.voted = m.From + 1
		l := n.entries(func(e api.Entry) bool { return e.Index > m.Low })
		return []api.Message{n.says(m.From, api.Message{Kind: api.MsgGrant, Yes: true, Low: n.now.low, Entries: l})}
	case m.Kind == api.MsgGrant && m.Yes && n.role == node.Candidate:
		return n.granted(m)
	case m.Kind == api.MsgAck && n.role == node.Leader:
		n.gets(m.From, m.Index)
		if m.Index > n.trimmed && m.Index <= n.trimmed+api.MaxLog {
			n.acked[m.From][m.Index] = true
		}
		return n.apply()
	case m.Kind == api.MsgPulse && m.Yes && n.role == node.Leader:
		return n.pulsed(m)
	}
	return nil
}

func (n *tale) gets(from int, index uint64) {
	if index > n.trimmed && index <= n.trimmed+api.MaxLog {
		n.has[from][index] = true
	}
}

func (n *tale) granted(m api.Message) []api.Message {
	for _, e := range m.Entries {
		if !entry.Good(e, n.c) {
			return nil
		}
	}
	if _, twice := n.votes[m.From]; !twice {
		l := []api.Entry{}
		for _, e := range m.Entries {
			if !n.comesAgain(e) {
				l = append(l, e)
			}
		}
		n.votes[m.From] = l
	}
	if 2*len(n.votes) < n.c.Nodes {
		return nil
	}
	var all [][]api.Entry
	for i := range n.c.Nodes {
		all = append(all, n.votes[i])
	}
	n.save()
	l := merge.Merge(n.base, n.term, n.c.Behind, all...)
	if len(l) > 3*n.c.Behind {
		return nil // the slots have no room
	}
	n.follow(n.id + 1)
	n.role, n.start = node.Leader, n.base+uint64(len(l))+1
	n.next, n.round, n.heard = n.start, 1, make([]uint64, n.c.Nodes)
	n.has, n.acked = nil, nil
	for range n.c.Nodes {
		n.has, n.acked = append(n.has, set{}), append(n.acked, set{})
	}
	var out []api.Message
	for _, e := range l {
		n.held[e.Index] = e
		n.has[n.id][e.Index] = true
	}
	for _, e := range l {
		out = append(out, n.toAll(n.carry(e))...)
	}
	return append(out, n.beat()...)
}

func (n *tale) pulsed(m api.Message) []api.Message {
	tells := func(index uint64) bool {
		return index <= m.Low || index-m.Low <= 64 && m.Bits>>(index-m.Low-1)&1 == 1
	}
	for index := n.trimmed + 1; index <= n.trimmed+api.MaxLog; index++ {
		if tells(index) {
			n.has[m.From][index] = true
		}
	}
	var brought []api.Message
	if m.Low < n.trimmed {
		s, _ := image.Make(n.now.image())
		brought = []api.Message{n.says(m.From, api.Message{Kind: api.MsgSnap, Data: s})}
	} else {
		for _, e := range n.entries(func(e api.Entry) bool { return e.Term == n.term && !tells(e.Index) && !n.acked[m.From][e.Index] }) {
			if len(brought) < 32 {
				brought = append(brought, n.says(m.From, n.carry(e)))
			}
		}
	}
	out := n.apply()
	if m.Round <= n.round {
		n.heard[m.From] = max(n.heard[m.From], m.Round)
	}
	sure := func(w waiting) bool {
		count := 1
		for i, r := range n.heard {
			if i != n.id && r >= w.round {
				count++
			}
		}
		return w.index == 0 && 2*count > n.c.Nodes
	}
	return append(append(out, n.release(sure)...), brought...)
}

func (n *tale) led(m api.Message) []api.Message {
	n.follow(m.From + 1)
	if m.Kind != api.MsgSnap {
		n.all = max(n.all, m.Low)
		for k := range uint64(64) {
			if m.Bits>>k&1 == 1 && m.Low+1+k > m.Low {
				n.committed[m.Low+1+k] = true
			}
		}
		n.apply()
	}
	if m.Kind == api.MsgAppend {
		if len(m.Entries) != 1 || m.Entries[0].Term != m.Term || !entry.Good(m.Entries[0], n.c) {
			return nil
		}
		e := m.Entries[0]
		if old, ok := n.held[e.Index]; e.Index > n.trimmed && !(ok && old.Term == m.Term) {
			if e.Index > n.trimmed+3*uint64(n.c.Behind) || ok && old.Term > e.Term {
				return nil
			}
			n.held[e.Index] = e
		}
		n.apply()
		return []api.Message{n.says(m.From, api.Message{Kind: api.MsgAck, Index: e.Index})}
	}
	if i, e := image.Read(m.Data); m.Kind == api.MsgSnap && e == api.OK && i.Marks.Low > n.now.low && len(i.Blocks) == len(n.now.blocks) {
		n.now = kept{low: i.Marks.Low, marked: set{}, blocks: i.Blocks, done: i.Done}
		for k := range uint64(64) {
			if i.Marks.Bits>>k&1 == 1 {
				n.now.marked[i.Marks.Low+1+k] = true
			}
		}
		n.save()
		n.apply()
	}
	r := api.Message{Kind: api.MsgPulse, Yes: true, Round: m.Round, Low: n.now.low}
	for k := range uint64(64) {
		index := n.now.low + 1 + k
		if e, ok := n.held[index]; n.now.has(index) || ok && e.Term == n.term {
			r.Bits |= 1 << k
		}
	}
	return []api.Message{n.says(m.From, r)}
}

func (n *tale) serves() bool { return n.role == node.Leader && n.now.low+1 >= n.start }

func (n *tale) ofClient(m api.Message) []api.Message {
	s := m.Span
	switch {
	case !n.serves():
		return n.answer(m.Client, m.Req, api.ErrLead, "")
	case s.Count < 1 || s.Count > 8 || uint64(s.From)+uint64(s.Count) > uint64(n.c.Blocks),
		m.Kind == api.MsgWrite && (len(m.Data) != 8*int(s.Count) || m.Req == 0):
		return n.answer(m.Client, m.Req, api.ErrRange, "")
	case m.Kind == api.MsgRead:
		n.waits = slices.DeleteFunc(n.waits, func(w waiting) bool { return w.index == 0 && w.client == m.Client && w.req == m.Req })
		if len(n.waits) >= 64 {
			return n.answer(m.Client, m.Req, api.ErrBusy, "")
		}
		n.round++
		n.waits = append(n.waits, waiting{client: m.Client, req: m.Req, round: n.round, span: s})
		return n.beat()
	}
	t := n.now.done[m.Client-1]
	switch {
	case t.Top >= api.Keep && m.Req <= t.Top-api.Keep:
		return n.answer(m.Client, m.Req, api.ErrOld, "")
	case m.Req <= t.Top && t.Bits>>(t.Top-m.Req)&1 == 1:
		return n.answer(m.Client, m.Req, api.OK, "")
	case len(n.entries(func(e api.Entry) bool { return e.Term == n.term && e.Client == m.Client && e.Req == m.Req })) > 0:
		return nil // it waits
	case len(n.waits) >= 64 || n.next > n.now.low+uint64(n.c.Behind):
		return n.answer(m.Client, m.Req, api.ErrBusy, "")
	}
	e := api.Entry{Index: n.next, Term: n.term, Start: n.start, Kind: api.KindWrite, Client: m.Client, Req: m.Req, Span: s, Data: m.Data}
	e.Behind = behind.Make(n.entries(func(e api.Entry) bool { return e.Term == n.term }), n.c.Behind)
	n.held[e.Index] = e
	n.has[n.id][e.Index] = true
	n.waits = append(n.waits, waiting{client: m.Client, req: m.Req, index: e.Index})
	n.next++
	return append(n.toAll(n.carry(e)), n.apply()...)
}

// says is what the telling says of it, as state does of a node.
func (n *tale) state() string {
	i := n.now.image()
	return fmt.Sprintf("role %d, term %d, vote %d %t, chief %d %t, serves %t, marks %+v, low %d, entries %+v, image %+v %d, down %t", n.role, n.term, max(0, n.voted-1), n.voted != 0, max(0, n.chief-1), n.chief != 0, n.serves(), i.Marks, n.trimmed, n.entries(func(api.Entry) bool { return true }), i, 0, false)
}

// stage is some nodes, what is told of them, and messages under way.
type stage struct {
	t       *testing.T
	r       *rand.Rand
	c       api.Config
	devices []*device.Device
	nodes   []*node.Node
	tales   []*tale
	way     []api.Message
	last    [9]uint64
	count   map[string]int
}

func newStage(t *testing.T, seed int64, c api.Config) *stage {
	s := &stage{t: t, r: rand.New(rand.NewSource(seed)), c: c, count: map[string]int{}}
	for id := range c.Nodes {
		n, d := made(t, c, id)
		s.devices, s.nodes, s.tales = append(s.devices, d), append(s.nodes, n), append(s.tales, newTale(c, id))
	}
	return s
}

// same checks one node against what is told of it.
func (s *stage) same(what string, i int, got, want []api.Message) {
	s.t.Helper()
	n, x := s.nodes[i], s.tales[i]
	if g, w := telling(got), telling(want); !slices.Equal(g, w) {
		s.t.Fatalf("%s: the node %d of %+v told\n%s\nnot\n%s", what, i, s.c, strings.Join(g, "\n"), strings.Join(w, "\n"))
	}
	if g, w := state(n), x.state(); g != w {
		s.t.Fatalf("%s: the node %d of %+v is\n%s\nnot\n%s", what, i, s.c, g, w)
	}
	var fresh []uint64
	for _, e := range n.Fresh() {
		fresh = append(fresh, e.Index)
	}
	if !slices.Equal(fresh, x.fresh) {
		s.t.Fatalf("%s: the node %d of %+v applied %v, not %v", what, i, s.c, fresh, x.fresh)
	}
	for _, m := range got {
		s.count[fmt.Sprint("kind ", m.Kind)]++
	}
	s.count["applied"] += len(fresh)
	if n.Role() == node.Leader {
		s.count["leads"]++
	}
}

func (s *stage) take(i int, m api.Message) {
	s.t.Helper()
	got := s.nodes[i].Take(m)
	s.same(fmt.Sprintf("%+v", m), i, got, s.tales[i].take(m))
	s.way = append(s.way, got...)
}

// asks lets a client ask somebody for something.
func (s *stage) asks() {
	s.t.Helper()
	client := uint64(1 + s.r.Intn(8))
	m := readOf(client, 0, uint32(s.r.Intn(int(s.c.Blocks))), 1)
	m.Span.Count = uint32(1 + s.r.Intn(min(8, int(s.c.Blocks-m.Span.From))))
	if s.r.Intn(4) > 0 {
		m = writeOf(client, 0, m.Span.From, text(string(rune('a'+s.r.Intn(26))), int(m.Span.Count)))
	}
	s.last[client]++
	m.Req = s.last[client]
	if back := uint64(s.r.Intn(20)); s.r.Intn(3) == 0 && back < m.Req {
		m.Req -= back
	}
	to := s.r.Intn(s.c.Nodes)
	for i, n := range s.nodes {
		if n.Role() == node.Leader && s.r.Intn(4) > 0 {
			to = i
		}
	}
	s.take(to, m)
}

// spoil changes one thing of a message.
func (s *stage) spoil(m api.Message) api.Message {
	some := []uint64{0, 1, 2, 3, uint64(s.r.Intn(64)), 1 << s.r.Intn(64), api.MaxIndex, greatest}
	number := some[s.r.Intn(len(some))]
	switch s.r.Intn(12) {
	case 0:
		m.Kind = s.r.Intn(12)
	case 1:
		m.From = s.r.Intn(18) - 1
	case 2:
		m.Term = max(m.Term, 2) - 2 + uint64(s.r.Intn(4))
	case 3:
		m.Index = number
	case 4:
		m.Low = number
	case 5:
		m.Bits = s.r.Uint64() >> s.r.Intn(64)
	case 6:
		m.Round = number
	case 7:
		m.Yes = !m.Yes
	case 8:
		m.Req, m.Client = number, uint64(s.r.Intn(10))
	case 9:
		m.Span = api.Span{From: uint32(number), Count: uint32(s.r.Intn(10))}
	case 10:
		m.Data = text("x", s.r.Intn(10))
	case 11:
		m.Entries = slices.Clone(m.Entries)
		for i := range m.Entries {
			e := &m.Entries[i]
			switch s.r.Intn(6) {
			case 0:
				e.Index = number
			case 1:
				e.Term = m.Term
			case 2:
				e.Req = number
			case 3:
				e.Behind = nil
			case 4:
				e.Kind = s.r.Intn(4)
			}
		}
	}
	return m
}

// tame tells whether a message that was spoilt is one that the telling knows of: it knows nothing of the limits at the greatest numbers.
func (s *stage) tame(m api.Message) bool {
	if m.Term > 1<<40 || m.Kind == api.MsgSnap {
		return false
	}
	for _, e := range m.Entries {
		if e.Term > 1<<40 {
			return false
		}
	}
	return m.Kind != api.MsgAppend && m.Kind != api.MsgBeat || bits.Len64(m.Low) < 40
}

func (s *stage) step(wild bool) {
	s.t.Helper()
	i := s.r.Intn(s.c.Nodes)
	switch k := s.r.Intn(100); {
	case k < 70 && len(s.way) > 0:
		at := 0
		if s.r.Intn(3) == 0 {
			at = s.r.Intn(len(s.way))
		}
		m := s.way[at]
		if s.r.Intn(12) > 0 {
			s.way = slices.Delete(s.way, at, at+1)
		}
		if wild && s.r.Intn(20) == 0 {
			m = s.spoil(m)
		}
		if m.To < s.c.Nodes && s.tame(m) || m.Kind == api.MsgSnap && m.To < s.c.Nodes {
			s.take(m.To, m)
		}
	case k < 71:
		got := s.nodes[i].Timer()
		s.same("a timer", i, got, s.tales[i].timer())
		s.way = append(s.way, got...)
	case k < 92:
		s.asks()
	case k < 94:
		for n, x := range s.nodes {
			if x.Role() == node.Leader {
				i = n
			}
		}
		got := s.nodes[i].Timer()
		s.same("a leader's timer", i, got, s.tales[i].timer())
		s.way = append(s.way, got...)
	case k < 95:
		is(s.t, "a save", s.nodes[i].Save(), api.OK)
		s.tales[i].save()
		s.same("a save", i, nil, nil)
	case k < 96:
		s.devices[i].Crash(make([]int, s.r.Intn(5))...)
		s.nodes[i] = opened(s.t, s.devices[i], s.c, i)
		s.tales[i].open()
		s.same("opened", i, nil, nil)
	case k < 97:
		s.way = slices.DeleteFunc(s.way, func(api.Message) bool { return s.r.Intn(4) == 0 })
	}
	if len(s.way) > 150 {
		s.way = s.way[len(s.way)-100:]
	}
}

func play(t *testing.T, seeds int64, wild bool) {
	count := map[string]int{}
	for seed := range seeds {
		r := rand.New(rand.NewSource(seed))
		c := api.Config{Nodes: []int{3, 3, 5, 7}[r.Intn(4)], Behind: []int{1, 2, 3, 4, 5, 8, 20, 64}[r.Intn(8)], Blocks: uint32(1 + r.Intn(12))}
		s := newStage(t, seed, c)
		s.count = count
		for range 700 {
			s.step(wild)
		}
	}
	for kind := api.MsgVote; kind <= api.MsgAnswer; kind++ {
		if kind != api.MsgWrite && kind != api.MsgRead && count[fmt.Sprint("kind ", kind)] < 10 {
			t.Error("too few messages of the kind", kind, count)
		}
	}
	if count["applied"] < 500 || count["leads"] < 5000 {
		t.Error(count)
	}
	t.Log(count)
}

func TestStepByStep(t *testing.T) {
	play(t, 60, false)
}

func TestStepByStepWithWhatNobodyHonestSends(t *testing.T) {
	play(t, 60, true)
}
