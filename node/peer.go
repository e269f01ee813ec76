package node

import (
	"slices"

	"keelson/api"
	"keelson/ballot"
	"keelson/entry"
	"keelson/image"
	"keelson/marks"
)

// hears takes a message of another node.
func (n *Node) hears(m api.Message) []api.Message {
	if m.Term < n.Term() {
		return n.refuses(m)
	}
	if m.Term > n.Term() {
		if n.vow.Raise(m.Term) != api.OK {
			return nil // it can't be in that term
		}
		n.forgets()
	}
	switch m.Kind {
	case api.MsgVote:
		return n.votes(m)
	case api.MsgGrant:
		return n.granted(m)
	case api.MsgAppend:
		return n.appended(m)
	case api.MsgBeat:
		return n.beaten(m)
	case api.MsgSnap:
		return n.snapped(m)
	case api.MsgAck:
		return n.acked(m)
	case api.MsgPulse:
		return n.pulsed(m)
	}
	return nil
}

// refuses tells somebody of a lower term which one it is now.
func (n *Node) refuses(m api.Message) []api.Message {
	switch m.Kind {
	case api.MsgVote:
		return n.one(m, api.Message{Kind: api.MsgGrant})
	case api.MsgAppend, api.MsgBeat, api.MsgSnap:
		return n.one(m, api.Message{Kind: api.MsgPulse})
	}
	return nil
}

// one tells a message to whom another one came from.
func (n *Node) one(m, reply api.Message) []api.Message {
	return []api.Message{n.says(m.From, reply)}
}

// stands lets it ask for votes in the next term.
func (n *Node) stands() []api.Message {
	if n.vow.Cast(n.Term()+1, n.id) != api.OK {
		return nil
	}
	n.forgets()
	base := n.store.Marks().Low
	n.ballot = ballot.New(n.config.Nodes, n.id, n.Term(), base, n.above(base))
	return n.all(api.Message{Kind: api.MsgVote, Low: base})
}

// votes answers who asks for its vote. Whoever has applied less than this one has forgotten could not learn from it what it lacks.
func (n *Node) votes(m api.Message) []api.Message {
	if m.Low < n.Low() || n.vow.Cast(m.Term, m.From) != api.OK {
		return n.one(m, api.Message{Kind: api.MsgGrant})
	}
	l := slices.DeleteFunc(n.Entries(), func(e api.Entry) bool { return e.Index <= m.Low })
	return n.one(m, api.Message{Kind: api.MsgGrant, Yes: true, Low: n.Marks().Low, Entries: l})
}

// granted takes a vote.
func (n *Node) granted(m api.Message) []api.Message {
	bad := func(e api.Entry) bool { return !entry.Good(e, n.config) }
	if n.ballot == nil || !m.Yes || slices.ContainsFunc(m.Entries, bad) {
		return nil
	}
	n.ballot.Grant(m.From, slices.DeleteFunc(slices.Clone(m.Entries), n.again))
	if !n.ballot.Won() {
		return nil
	}
	return n.wins()
}

// appended takes an entry.
func (n *Node) appended(m api.Message) []api.Message {
	n.follows(m.From + 1)
	n.learns(m)
	if len(m.Entries) != 1 || m.Entries[0].Term != m.Term || !entry.Good(m.Entries[0], n.config) {
		return nil
	}
	e := m.Entries[0]
	if e.Index > n.Low() && !n.holds(e.Index) && n.slots.Put(e) != api.OK {
		return nil
	}
	n.advance() // it may have been told of it ahead
	return n.one(m, api.Message{Kind: api.MsgAck, Index: e.Index})
}

// beaten takes a round.
func (n *Node) beaten(m api.Message) []api.Message {
	n.follows(m.From + 1)
	n.learns(m)
	return n.pulses(m)
}

// snapped takes all of a chunk.
func (n *Node) snapped(m api.Message) []api.Message {
	n.follows(m.From + 1)
	i, e := image.Read(m.Data)
	if e == api.OK && i.Marks.Low > n.Marks().Low && n.store.Import(i) == api.OK {
		n.trim()
		n.advance()
	}
	return n.pulses(m)
}

// learns takes what a Leader told to be committed. Of what came earlier nothing is lost: messages overtake one another.
func (n *Node) learns(m api.Message) {
	n.told = marks.Join(n.told, good(m))
	n.advance()
}

// good tells what a message marks as good Marks.
func good(m api.Message) api.Marks {
	all := marks.Over(api.Marks{}, min(m.Low, api.MaxIndex-api.MaxMarks))
	for k := range uint64(api.MaxMarks) {
		if m.Bits>>k&1 == 1 {
			all, _ = marks.Set(all, m.Low+1+k)
		}
	}
	return all
}

// pulses tells a Leader what it has.
func (n *Node) pulses(m api.Message) []api.Message {
	have := n.Marks()
	has := func(index uint64) bool { return marks.Has(have, index) || n.holds(index) }
	return n.one(m, api.Message{Kind: api.MsgPulse, Yes: true, Round: m.Round, Low: have.Low, Bits: marks.Bits(have.Low, has)})
}
