package node_test

import (
	"fmt"
	"math"
	"slices"
	"testing"

	"keelson/api"
	"keelson/entry"
	"keelson/image"
	"keelson/node"
)

// P27.3

// alone is what the leader of the term 1, the node 0, answers.
func alone(client, req uint64, e api.Errno, data string) api.Message {
	return answerOf(0, 1, client, req, e, 1, data)
}

// told is what the leader of the term 1, the node 0, tells when it puts an entry.
func told(m api.Marks, e api.Entry) []api.Message {
	return others(three, 0, 1, api.Message{Kind: api.MsgAppend, Low: m.Low, Bits: m.Bits, Entries: []api.Entry{e}})
}

// began is what it tells of a round.
func began(round uint64, m api.Marks) []api.Message {
	return others(three, 0, 1, api.Message{Kind: api.MsgBeat, Round: round, Low: m.Low, Bits: m.Bits})
}

func TestWhoDoesNotServe(t *testing.T) {
	asks := []api.Message{writeOf(2, 7, 0, text("a", 1)), readOf(2, 7, 0, 1), writeOf(2, 7, 9, ""), readOf(2, 7, 9, 99)}
	n, _ := made(t, three, 1)
	for _, m := range asks {
		tells(t, "it knows nobody", n.Take(m), answerOf(1, 0, 2, 7, api.ErrLead, 0, ""))
	}
	n.Take(beatOf(2, 5, 1, 0, 0))
	for _, m := range asks {
		tells(t, "it knows who leads", n.Take(m), answerOf(1, 5, 2, 7, api.ErrLead, 3, ""))
	}
	n.Timer()
	for _, m := range asks {
		tells(t, "a candidate", n.Take(m), answerOf(1, 6, 2, 7, api.ErrLead, 0, ""))
	}
	n.Take(grantOf(0, 6, put(2, 1)))
	for _, m := range asks {
		tells(t, "it serves not yet", n.Take(m), answerOf(1, 6, 2, 7, api.ErrLead, 2, ""))
	}
	n.Take(ackOf(0, 6, 2))
	for _, m := range asks {
		tells(t, "it has not applied all", n.Take(m), answerOf(1, 6, 2, 7, api.ErrLead, 2, ""))
	}
	n.Take(ackOf(2, 6, 1))
	if !n.Serves() {
		t.Fatal(state(n))
	}
	if l := n.Take(asks[0]); len(l) != 2 || l[0].Kind != api.MsgAppend {
		t.Error(l)
	}
}

func TestWhoIsAClient(t *testing.T) {
	n, _ := leader(t, three)
	for _, client := range []uint64{0, api.MaxClients + 1, 1 << 32, math.MaxUint64} {
		for _, m := range []api.Message{writeOf(client, 1, 0, text("a", 1)), readOf(client, 1, 0, 1)} {
			stays(t, fmt.Sprint("the client ", client), n, func() []api.Message { return n.Take(m) })
		}
	}
	for _, client := range []uint64{1, 2, api.MaxClients} {
		for _, from := range []int{math.MinInt, -1, api.MaxNodes, api.MaxNodes + int(client) - 1, api.MaxNodes + int(client) + 1, math.MaxInt} {
			m := writeOf(client, 1, 0, text("a", 1))
			m.From = from
			stays(t, "of another one", n, func() []api.Message { return n.Take(m) })
		}
		for _, kind := range kinds {
			if kind == api.MsgWrite || kind == api.MsgRead {
				continue
			}
			m := writeOf(client, 1, 0, text("a", 1))
			m.Kind, m.Term = kind, 9
			stays(t, "no request", n, func() []api.Message { return n.Take(m) })
		}
		m := writeOf(client, 1, 0, text("a", 1))
		m.Term, m.Yes, m.Index = 99, true, 99 // of no matter
		if l := n.Take(m); len(l) != 2 || l[0].Kind != api.MsgAppend || n.Term() != 1 {
			t.Error(client, l)
		}
	}
}

func TestRequestsThatCannotBe(t *testing.T) {
	n, _ := leader(t, three)
	refused := func(what string, m api.Message) {
		t.Helper()
		was := state(n)
		tells(t, what, n.Take(m), alone(m.Client, m.Req, api.ErrRange, ""))
		if now := state(n); now != was {
			t.Errorf("%s: %s, not %s", what, now, was)
		}
	}
	for what, s := range map[string]api.Span{
		"of nothing": {}, "of nothing at the end": {From: 8}, "behind the last one": {From: 8, Count: 1}, "over the end": {From: 7, Count: 2},
		"of one more than all": {From: 0, Count: 9}, "that wraps round": {From: math.MaxUint32, Count: 2}, "of all there can be": {From: 0, Count: math.MaxUint32},
	} {
		m := readOf(1, 1, s.From, s.Count)
		refused("a read "+what, m)
		m.Kind, m.Data = api.MsgWrite, text("a", int(min(s.Count, 9)))
		refused("a write "+what, m)
	}
	for _, data := range []string{"", text("a", 1), text("a", 2)[1:], text("a", 2) + "a", text("a", 3)} {
		m := writeOf(1, 1, 0, data)
		m.Span.Count = 2
		refused("data of another length", m)
	}
	refused("a write of the request 0", writeOf(1, 0, 0, text("a", 1)))
	m := writeOf(1, 1, 0, text("a", 9)[:71])
	refused("a byte less than a block", m)
	tells(t, "up to the last block", n.Take(readOf(1, 1, 7, 1)), began(2, api.Marks{})...)
	tells(t, "all blocks", n.Take(readOf(1, 2, 0, 8)), began(3, api.Marks{})...)
}

func TestTheGreatestCount(t *testing.T) {
	c := api.Config{Nodes: 3, Behind: 4, Blocks: 20}
	n, _ := leader(t, c)
	tells(t, "a read of too many", n.Take(readOf(1, 1, 3, api.MaxCount+1)), alone(1, 1, api.ErrRange, ""))
	tells(t, "a write of too many", n.Take(writeOf(1, 1, 3, text("a", api.MaxCount+1))), alone(1, 1, api.ErrRange, ""))
	if l := n.Take(readOf(1, 1, 12, api.MaxCount)); len(l) != 2 || l[0].Kind != api.MsgBeat {
		t.Error(l)
	}
	if l := n.Take(writeOf(1, 2, 12, text("a", api.MaxCount))); len(l) != 2 || l[0].Kind != api.MsgAppend {
		t.Error(l)
	}
	tells(t, "answered", n.Take(ackOf(1, 1, 1)), alone(1, 2, api.OK, ""))
	tells(t, "read", n.Take(pulseOf(2, 1, 2, 0, 0)), alone(1, 1, api.OK, text("a", api.MaxCount)), to(0, 2, 1, api.Message{Kind: api.MsgAppend, Low: 1, Entries: n.Entries()}))
}

func TestAWrite(t *testing.T) {
	n, d := leader(t, three)
	first := api.Entry{Index: 1, Term: 1, Start: 1, Kind: api.KindWrite, Client: 3, Req: 5, Span: api.Span{From: 2, Count: 2}, Data: text("a", 1) + text("b", 1)}
	tells(t, "the first one", n.Take(writeOf(3, 5, 2, first.Data)), told(api.Marks{}, first)...)
	if d.Loose() != 0 {
		t.Error("it isn't safe")
	}
	second := api.Entry{Index: 2, Term: 1, Start: 1, Kind: api.KindWrite, Client: 4, Req: 1, Span: api.Span{From: 0, Count: 1}, Data: text("c", 1), Behind: []api.Look{entry.Look(first)}}
	tells(t, "the second one", n.Take(writeOf(4, 1, 0, second.Data)), told(api.Marks{}, second)...)
	if l := n.Entries(); len(l) != 2 || !entry.Same(l[0], first) || !entry.Same(l[1], second) {
		t.Error(l)
	}
	tells(t, "it waits", n.Take(writeOf(3, 5, 2, first.Data)))
	tells(t, "it waits, whatever it asks for", n.Take(writeOf(3, 5, 0, text("z", 1))))
	holds(t, "twice", n, 1, 2)
	tells(t, "the second one is answered ahead", n.Take(ackOf(2, 1, 2)), alone(4, 1, api.OK, ""))
	freshly(t, "the second one is answered ahead", n, 2)
	tells(t, "once", n.Take(ackOf(1, 1, 2)))
	tells(t, "done", n.Take(writeOf(4, 1, 0, second.Data)), alone(4, 1, api.OK, ""))
	third := api.Entry{Index: 3, Term: 1, Start: 1, Kind: api.KindWrite, Client: 4, Req: 2, Span: api.Span{From: 2, Count: 1}, Data: text("d", 1), Behind: []api.Look{entry.Look(second), entry.Look(first)}}
	tells(t, "the third one", n.Take(writeOf(4, 2, 2, third.Data)), told(api.Marks{Bits: 2}, third)...)
	tells(t, "it must wait for the first one", n.Take(ackOf(1, 1, 3)))
	freshly(t, "it must wait for the first one", n)
	tells(t, "all", n.Take(ackOf(1, 1, 1)), alone(3, 5, api.OK, ""), alone(4, 2, api.OK, ""))
	freshly(t, "all", n, 1, 3)
	if i, e := n.Image(); e != api.OK || i.Blocks != text("c", 1)+text("\x00", 1)+text("d", 1)+text("b", 1)+text("\x00", 4) {
		t.Errorf("%+v", i)
	}
}

func TestWritesThatWereDone(t *testing.T) {
	n, _ := leader(t, three)
	n.Take(writeOf(1, 20, 0, text("a", 1)))
	n.Take(ackOf(1, 1, 1))
	tells(t, "done", n.Take(writeOf(1, 20, 0, text("b", 1))), alone(1, 20, api.OK, ""))
	tells(t, "old", n.Take(writeOf(1, 4, 0, text("b", 1))), alone(1, 4, api.ErrOld, ""))
	tells(t, "older", n.Take(writeOf(1, 1, 0, text("b", 1))), alone(1, 1, api.ErrOld, ""))
	for _, m := range []api.Message{writeOf(1, 5, 0, text("b", 1)), writeOf(1, 21, 0, text("b", 1)), writeOf(2, 20, 0, text("b", 1))} {
		if l := n.Take(m); len(l) != 2 || l[0].Kind != api.MsgAppend {
			t.Error(l)
		}
	}
	if i, _ := n.Image(); i.Blocks[:8] != text("a", 1) {
		t.Error(i)
	}
}

func TestAWriteThatWasGoneOnWith(t *testing.T) {
	n, _ := leader(t, three)
	n.Take(writeOf(1, 1, 0, text("a", 1)))
	n.Take(writeOf(1, 2, 1, text("b", 1)))
	n.Take(api.Message{From: 2, Term: 2}) // somebody else would lead
	n.Timer()
	n.Take(grantOf(1, 3))
	tells(t, "it serves not", n.Take(writeOf(1, 2, 1, text("b", 1))), answerOf(0, 3, 1, 2, api.ErrLead, 1, ""))
	tells(t, "those who waited wait no more", n.Take(ackOf(1, 3, 1)))
	tells(t, "those who waited wait no more", n.Take(ackOf(1, 3, 2)))
	tells(t, "done", n.Take(writeOf(1, 2, 1, text("b", 1))), answerOf(0, 3, 1, 2, api.OK, 1, ""))
}

func TestTheNextIndex(t *testing.T) {
	for behind := 1; behind <= 5; behind++ {
		c := api.Config{Nodes: 3, Behind: behind, Blocks: 8}
		n, _ := leader(t, c)
		for req := uint64(1); req <= uint64(behind); req++ {
			if l := n.Take(writeOf(1, req, uint32(req), text("a", 1))); len(l) != 2 {
				t.Fatalf("%d of %d: %v", req, behind, l)
			}
		}
		next := uint64(behind) + 1
		was := state(n)
		tells(t, "one more", n.Take(writeOf(2, 1, 0, text("a", 1))), alone(2, 1, api.ErrBusy, ""))
		if now := state(n); now != was {
			t.Errorf("%s, not %s", now, was)
		}
		tells(t, "one that waits", n.Take(writeOf(1, 1, 0, text("a", 1))))
		n.Take(ackOf(1, 1, next-1)) // the last one
		if behind > 1 {
			tells(t, "with a hole", n.Take(writeOf(2, 1, 0, text("a", 1))), alone(2, 1, api.ErrBusy, ""))
			n.Take(ackOf(1, 1, 1))
		}
		l := n.Take(writeOf(2, 1, 0, text("a", 1)))
		if len(l) != 2 || l[0].Entries[0].Index != next {
			t.Errorf("%d: %+v", behind, l)
		}
		last := l[0].Entries[0]
		for k, look := range last.Behind {
			if look.Req != uint64(behind-k) {
				t.Errorf("%+v", last.Behind)
			}
		}
		if want := int(next - 1 - n.Low()); len(last.Behind) != want {
			t.Errorf("it looks behind at %d, not at all %d that it holds", len(last.Behind), want)
		}
	}
}

func TestTooManyWait(t *testing.T) {
	c := api.Config{Nodes: 3, Behind: 64, Blocks: 8}
	n, _ := leader(t, c)
	for req := range uint64(api.MaxQueue - 2) {
		n.Take(readOf(1, req, 0, 1))
	}
	if l := n.Take(writeOf(2, 1, 0, text("a", 1))); len(l) != 2 || l[0].Kind != api.MsgAppend {
		t.Fatal("one less and one", l)
	}
	if l := n.Take(readOf(2, 2, 0, 1)); len(l) != 2 || l[0].Kind != api.MsgBeat {
		t.Fatal("one less", l)
	}
	tells(t, "a write", n.Take(writeOf(3, 1, 0, text("a", 1))), alone(3, 1, api.ErrBusy, ""))
	tells(t, "a read", n.Take(readOf(3, 1, 0, 1)), alone(3, 1, api.ErrBusy, ""))
	tells(t, "a write that waits", n.Take(writeOf(2, 1, 0, text("a", 1))))
	if l := n.Take(readOf(2, 2, 0, 1)); len(l) != 2 || l[0].Kind != api.MsgBeat {
		t.Error("a read that waits", l)
	}
	holds(t, "busy", n, 1)
	tells(t, "one is answered", n.Take(ackOf(1, 1, 1)), alone(2, 1, api.OK, ""))
	if l := n.Take(writeOf(3, 1, 0, text("a", 1))); len(l) != 2 {
		t.Error("there is room", l)
	}
	tells(t, "a write done, though too many wait", n.Take(writeOf(2, 1, 0, text("a", 1))), alone(2, 1, api.OK, ""))
}

func TestTooManyWaitForOneThatIsHeld(t *testing.T) {
	// A write that is held, of its term, but for which nobody waits, is only where it was gone on with and is not applied: the node serves not then. What is held waits at most once.
	n, _ := leader(t, api.Config{Nodes: 3, Behind: 64, Blocks: 8})
	for req := uint64(1); req <= 60; req++ {
		n.Take(writeOf(1+req%8, req, 0, text("a", 1)))
	}
	for req := uint64(1); req <= 60; req++ {
		tells(t, "it waits", n.Take(writeOf(1+req%8, req, 0, text("a", 1))))
	}
	if l := n.Entries(); len(l) != 60 {
		t.Error(len(l))
	}
	for req := uint64(1); req <= 60; req++ {
		tells(t, "once", n.Take(ackOf(2, 1, req)), alone(1+req%8, req, api.OK, ""))
	}
}

func TestAnIndexThatWasAckedAhead(t *testing.T) {
	n, _ := leader(t, three)
	n.Take(ackOf(1, 1, 1))
	n.Take(ackOf(2, 1, 1))
	freshly(t, "there is no such index", n)
	l := n.Take(writeOf(1, 1, 0, text("a", 1)))
	want := append(told(api.Marks{Low: 1}, n.Entries()[0]), alone(1, 1, api.OK, ""))
	tells(t, "now there is", l, want...)
	freshly(t, "now there is", n, 1)
}

func TestAWriteThatCannotBePut(t *testing.T) {
	n, _ := made(t, three, 0)
	full := image.Image{Marks: api.Marks{Low: api.MaxIndex - api.MaxMarks}, Blocks: text("s", 8)}
	n.Take(snapOf(t, 1, 1, full))
	n.Timer()
	n.Take(grantOf(1, 2))
	if n.Role() != node.Leader || !n.Serves() {
		t.Fatal(state(n))
	}
	n.Take(writeOf(1, 1, 0, text("a", 1)))
	n.Take(ackOf(1, 2, api.MaxIndex-api.MaxMarks+1))
	n.Take(pulseOf(1, 2, 1, greatest, 0))
	n.Timer()
	is(t, "a save", n.Save(), api.OK)
	marked(t, "no index is above the greatest", n, full.Marks)
}

func TestReads(t *testing.T) {
	n, _ := leader(t, three)
	n.Take(writeOf(1, 1, 2, text("a", 1)))
	n.Take(ackOf(1, 1, 1))
	all := api.Marks{Low: 1}
	tells(t, "the first one", n.Take(readOf(2, 5, 1, 3)), began(2, all)...)
	tells(t, "the second one", n.Take(readOf(3, 0, 2, 1)), began(3, all)...)
	tells(t, "heard in an earlier round", n.Take(pulseOf(1, 1, 1, 1, 0)))
	tells(t, "heard in no round", n.Take(pulseOf(1, 1, 99, 1, 0)))
	tells(t, "heard by an ack", n.Take(ackOf(2, 1, 1)))
	late := pulseOf(1, 1, 3, 1, 0)
	late.Yes = false
	tells(t, "without Yes", n.Take(late))
	tells(t, "of an earlier term", n.Take(pulseOf(1, 0, 3, 1, 0)))
	tells(t, "the first round is sure", n.Take(pulseOf(1, 1, 2, 1, 0)), alone(2, 5, api.OK, text("\x00", 1)+text("a", 1)+text("\x00", 1)))
	tells(t, "once", n.Take(pulseOf(2, 1, 2, 1, 0)))
	n.Take(writeOf(1, 2, 2, text("b", 1)))
	n.Take(ackOf(1, 1, 2))
	tells(t, "the second round is sure", n.Take(pulseOf(2, 1, 3, 2, 0)), alone(3, 0, api.OK, text("b", 1)))
	tells(t, "asked again", n.Take(readOf(2, 5, 2, 1)), began(4, api.Marks{Low: 2})...)
	tells(t, "and again", n.Take(readOf(2, 5, 2, 1)), began(5, api.Marks{Low: 2})...)
	tells(t, "it waits for the later round", n.Take(pulseOf(2, 1, 4, 2, 0)))
	tells(t, "it waits for the later round", n.Take(pulseOf(1, 1, 5, 2, 0)), alone(2, 5, api.OK, text("b", 1)))
}

func TestReadsOfFive(t *testing.T) {
	c := api.Config{Nodes: 5, Behind: 4, Blocks: 8}
	n, _ := leader(t, c)
	n.Take(readOf(2, 5, 0, 1))
	tells(t, "two of five", n.Take(pulseOf(1, 1, 2, 0, 0)))
	tells(t, "the same one", n.Take(pulseOf(1, 1, 2, 0, 0)))
	tells(t, "a timer's round is later", n.Timer(), others(c, 0, 1, api.Message{Kind: api.MsgBeat, Round: 3})...)
	tells(t, "three of five", n.Take(pulseOf(4, 1, 3, 0, 0)), alone(2, 5, api.OK, text("\x00", 1)))
}

func TestReadsOfOneWhoLeadsNoMore(t *testing.T) {
	n, _ := leader(t, three)
	n.Take(readOf(2, 5, 0, 1))
	n.Take(writeOf(2, 6, 0, text("a", 1)))
	n.Take(beatOf(2, 2, 1, 0, 0))
	tells(t, "it leads no more", n.Take(pulseOf(1, 1, 2, 1, 0)))
	n.Timer()
	n.Take(grantOf(1, 3))
	tells(t, "it leads again", n.Take(pulseOf(1, 3, 2, 1, 0)))
	tells(t, "it leads again", n.Take(pulseOf(1, 3, 1, 1, 0)))
	if !n.Serves() {
		t.Error(state(n))
	}
}

func TestAWriteAndAReadOfTheSameRequest(t *testing.T) {
	n, _ := leader(t, three)
	n.Take(writeOf(2, 5, 0, text("a", 1)))
	tells(t, "a read of it", n.Take(readOf(2, 5, 0, 1)), began(2, api.Marks{})...)
	got := n.Take(pulseOf(1, 1, 2, 0, 1))
	tells(t, "both", got, alone(2, 5, api.OK, ""), alone(2, 5, api.OK, text("a", 1)))
	if i := slices.IndexFunc(got, func(m api.Message) bool { return m.Data != "" }); i != 1 {
		t.Error("what is committed is applied ahead of all else", i)
	}
}
