package node

import (
	"keelson/api"
	"keelson/behind"
	"keelson/desk"
	"keelson/done"
	"keelson/image"
	"keelson/marks"
	"keelson/quorum"
	"keelson/span"
	"keelson/window"
)

// most is how many entries are told at a time to a node that lacks them.
const most = 32

// lead is what a node has of a Leader.
type lead struct {
	start  uint64         // the first index that is new in its term
	next   uint64         // the index of the next write
	window *window.Window // who has what
	safe   *window.Window // who holds what for good: what a node has only applied it may lose once more
	desk   *desk.Desk
}

// move lets its windows begin at low: one window has not room for all of a term.
func (l *lead) move(low uint64) {
	l.window, l.safe = moved(l.window, low), moved(l.safe, low)
}

// moved tells a window as one that begins at low, if there may be such a one.
func moved(from *window.Window, low uint64) *window.Window {
	w := window.New(from.Nodes(), low)
	if w == nil {
		return from
	}
	for index := low + 1; index <= low+api.MaxLog; index++ {
		for _, node := range quorum.Members(from.Who(index)) {
			w.Ack(node, index)
		}
	}
	return w
}

// wins makes it the Leader, if all that it goes on with is held.
func (n *Node) wins() []api.Message {
	if n.Save() != api.OK {
		return nil
	}
	base, l := n.ballot.Base(), n.ballot.Merge(n.config.Behind)
	if n.slots.Put(l...) != api.OK {
		return nil
	}
	n.follows(n.id + 1)
	next := base + uint64(len(l)) + 1
	w := window.New(n.config.Nodes, base)
	n.lead = &lead{start: next, next: next, window: w, safe: w.Clone(), desk: desk.New(n.config.Nodes, n.id)}
	for _, e := range l {
		n.window.Ack(n.id, e.Index)
	}
	var out []api.Message
	for _, e := range l {
		out = append(out, n.all(n.carries(e))...)
	}
	return append(out, n.beats(n.desk.Begin())...)
}

// carries tells the message that carries an entry.
func (n *Node) carries(e api.Entry) api.Message {
	m := n.committed()
	return api.Message{Kind: api.MsgAppend, Low: m.Low, Bits: m.Bits, Entries: []api.Entry{e}}
}

// beats tells a round to each other node.
func (n *Node) beats(round uint64) []api.Message {
	m := n.committed()
	return n.all(api.Message{Kind: api.MsgBeat, Round: round, Low: m.Low, Bits: m.Bits})
}

// acked takes that a node has an entry.
func (n *Node) acked(m api.Message) []api.Message {
	if n.lead == nil {
		return nil
	}
	n.window.Ack(m.From, m.Index)
	n.safe.Ack(m.From, m.Index)
	return n.advance()
}

// pulsed takes what a node has, and tells it what it lacks.
func (n *Node) pulsed(m api.Message) []api.Message {
	if n.lead == nil || !m.Yes {
		return nil
	}
	low, has := n.Low(), api.Marks{Low: m.Low, Bits: m.Bits}
	for index := low + 1; index <= low+api.MaxLog; index++ {
		if marks.Has(has, index) {
			n.window.Ack(m.From, index)
		}
	}
	brought := n.brings(m) // ahead of what is saved now: the node could not know of that
	out := append(n.advance(), n.reads(n.desk.Heard(m.From, m.Round))...)
	return append(out, brought...)
}

// brings tells a node what it lacks.
func (n *Node) brings(m api.Message) []api.Message {
	if m.Low < n.Low() {
		return n.snaps(m)
	}
	var out []api.Message
	l, has := n.current(), api.Marks{Low: m.Low, Bits: m.Bits}
	for _, index := range n.safe.Lacks(m.From, n.slots.Top()) {
		at := find(l, index)
		if at < len(l) && l[at].Index == index && !marks.Has(has, index) && len(out) < most {
			out = append(out, n.says(m.From, n.carries(l[at])))
		}
	}
	return out
}

// snaps tells a node all of its chunk.
func (n *Node) snaps(m api.Message) []api.Message {
	i, _ := n.store.Image() // there is power, or nothing is told
	data, _ := image.Make(i)
	return n.one(m, api.Message{Kind: api.MsgSnap, Data: data})
}

// asked takes a client's request.
func (n *Node) asked(m api.Message) []api.Message {
	write := m.Kind == api.MsgWrite
	switch {
	case !write && m.Kind != api.MsgRead:
		return nil
	case !n.Serves():
		return n.answers(m.Client, m.Req, api.ErrLead, "")
	case !span.Good(m.Span, n.config.Blocks) || m.Span.Count > api.MaxCount:
		return n.answers(m.Client, m.Req, api.ErrRange, "")
	case write && (len(m.Data) != api.BlockLen*int(m.Span.Count) || m.Req == 0):
		return n.answers(m.Client, m.Req, api.ErrRange, "")
	case write:
		return n.writes(m)
	}
	round, e := n.desk.Read(m.Client, m.Req, m.Span)
	if e != api.OK {
		return n.answers(m.Client, m.Req, e, "")
	}
	return n.beats(round)
}

// writes takes a write that is one.
func (n *Node) writes(m api.Message) []api.Message {
	t := n.store.Done()
	switch {
	case done.Has(t, m.Client, m.Req):
		return n.answers(m.Client, m.Req, api.OK, "")
	case done.Old(t, m.Client, m.Req):
		return n.answers(m.Client, m.Req, api.ErrOld, "")
	}
	for _, e := range n.current() {
		if e.Kind == api.KindWrite && e.Client == m.Client && e.Req == m.Req {
			n.desk.Write(m.Client, m.Req, e.Index)
			return nil
		}
	}
	if n.desk.Len() >= api.MaxQueue || n.next > n.Marks().Low+uint64(n.config.Behind) {
		return n.answers(m.Client, m.Req, api.ErrBusy, "")
	}
	return n.puts(m)
}

// puts puts a write at the next index.
func (n *Node) puts(m api.Message) []api.Message {
	e := api.Entry{
		Index: n.next, Term: n.Term(), Start: n.start,
		Kind: api.KindWrite, Client: m.Client, Req: m.Req, Span: m.Span, Data: m.Data,
		Behind: behind.Make(n.current(), n.config.Behind),
	}
	if wrong := n.slots.Put(e); wrong != api.OK {
		return n.answers(m.Client, m.Req, wrong, "")
	}
	n.next++
	n.window.Ack(n.id, e.Index)
	n.desk.Write(m.Client, m.Req, e.Index)
	return append(n.all(n.carries(e)), n.advance()...)
}

// applied answers the writes that were applied.
func (n *Node) applied() []api.Message {
	if n.lead == nil {
		return nil
	}
	var out []api.Message
	for _, w := range n.desk.Applied(n.Marks()) {
		out = append(out, n.answers(w.Client, w.Req, api.OK, "")...)
	}
	return out
}

// reads answers reads whose round is sure.
func (n *Node) reads(l []desk.Wait) []api.Message {
	var out []api.Message
	for _, w := range l {
		data, e := n.store.Read(w.Span)
		out = append(out, n.answers(w.Client, w.Req, e, data)...)
	}
	return out
}

// answers tells a client the answer of its request.
func (n *Node) answers(client, req uint64, e api.Errno, data string) []api.Message {
	to := api.MaxNodes + int(client)
	return []api.Message{n.says(to, api.Message{Kind: api.MsgAnswer, Client: client, Req: req, Code: int(e), Index: uint64(n.chief), Data: data})}
}
