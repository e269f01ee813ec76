package node_test

import (
	"fmt"
	"math"
	"slices"
	"strings"
	"testing"

	"keelson/api"
	"keelson/device"
	"keelson/done"
	"keelson/entry"
	"keelson/frame"
	"keelson/image"
	"keelson/node"
	"keelson/twin"
)

const greatest = math.MaxUint64

// three is a config of three nodes, of which entries look behind at four, over eight blocks.
var three = api.Config{Nodes: 3, Behind: 4, Blocks: 8}

// text is so many blocks that tell of what they were written by.
func text(sign string, count int) string {
	return strings.Repeat(sign, api.BlockLen*count)
}

// nothing is what a chunk has at first.
func nothing(c api.Config) image.Image {
	return image.Image{Blocks: text("\x00", int(c.Blocks))}
}

// telling tells messages in an order that says nothing, and lists that are nil as empty ones.
func telling(l []api.Message) []string {
	var out []string
	for _, m := range l {
		out = append(out, fmt.Sprintf("%+v", m))
	}
	slices.Sort(out)
	return out
}

// tells checks what a call told, in whatever order.
func tells(t *testing.T, what string, got []api.Message, want ...api.Message) {
	t.Helper()
	if g, w := telling(got), telling(want); !slices.Equal(g, w) {
		t.Errorf("%s: it told\n%s\nnot\n%s", what, strings.Join(g, "\n"), strings.Join(w, "\n"))
	}
}

func is(t *testing.T, what string, got, want api.Errno) {
	t.Helper()
	if got != want {
		t.Errorf("%s: %d, not %d", what, int(got), int(want))
	}
}

// made opens a node on a new device.
func made(t *testing.T, c api.Config, id int) (*node.Node, *device.Device) {
	t.Helper()
	d := device.New(node.Sectors(c))
	return opened(t, d, c, id), d
}

func opened(t *testing.T, d *device.Device, c api.Config, id int) *node.Node {
	t.Helper()
	n, e := node.Open(d, c, id)
	if e != api.OK || n == nil {
		t.Fatalf("%+v, %d: %v, %d", c, id, n, int(e))
	}
	return n
}

// state is all that a node says of itself, but for what was applied last.
func state(n *node.Node) string {
	vote, voted := n.Vote()
	chief, knows := n.Chief()
	i, e := n.Image()
	return fmt.Sprintf("role %d, term %d, vote %d %t, chief %d %t, serves %t, marks %+v, low %d, entries %+v, image %+v %d, down %t", n.Role(), n.Term(), vote, voted, chief, knows, n.Serves(), n.Marks(), n.Low(), n.Entries(), i, int(e), n.Down())
}

// stays checks that a call that told nothing changed nothing.
func stays(t *testing.T, what string, n *node.Node, call func() []api.Message) {
	t.Helper()
	was := state(n)
	tells(t, what, call())
	if now := state(n); now != was {
		t.Errorf("%s:\n%s\nnot\n%s", what, now, was)
	}
}

// holds checks of which indices a node holds an entry.
func holds(t *testing.T, what string, n *node.Node, want ...uint64) {
	t.Helper()
	var got []uint64
	for _, e := range n.Entries() {
		got = append(got, e.Index)
	}
	if !slices.Equal(got, want) {
		t.Errorf("%s: it holds %v, not %v", what, got, want)
	}
}

// marked checks what a node has applied.
func marked(t *testing.T, what string, n *node.Node, want api.Marks) {
	t.Helper()
	if n.Marks() != want {
		t.Errorf("%s: %+v, not %+v", what, n.Marks(), want)
	}
}

// freshly checks which indices were applied in the last call.
func freshly(t *testing.T, what string, n *node.Node, want ...uint64) {
	t.Helper()
	var got []uint64
	for _, e := range n.Fresh() {
		got = append(got, e.Index)
	}
	if !slices.Equal(got, want) {
		t.Errorf("%s: applied %v, not %v", what, got, want)
	}
}

// leads checks who leads, as a node knows.
func leads(t *testing.T, what string, n *node.Node, want int, knows bool) {
	t.Helper()
	if got, ok := n.Chief(); got != want || ok != knows {
		t.Errorf("%s: %d, %t leads, not %d, %t", what, got, ok, want, knows)
	}
}

// put is an entry that writes one block, of the request of its own index, looking behind at nothing.
func put(index, term uint64) api.Entry {
	return api.Entry{Index: index, Term: term, Start: 1, Kind: api.KindWrite, Client: 1 + index%3, Req: index, Span: api.Span{From: uint32(index % 8), Count: 1}, Data: text(string(rune('a'+index%26)), 1)}
}

// row is entries of a term, one behind the other, each looking behind at those ahead of it.
func row(first, last, term uint64, behind int) []api.Entry {
	var l []api.Entry
	for index := first; index <= last; index++ {
		e := put(index, term)
		for k := len(l) - 1; k >= 0 && len(e.Behind) < behind; k-- {
			e.Behind = append(e.Behind, api.Look{Client: l[k].Client, Req: l[k].Req, Span: l[k].Span})
		}
		l = append(l, e)
	}
	return l
}

func voteOf(from int, term, low uint64) api.Message {
	return api.Message{Kind: api.MsgVote, From: from, Term: term, Low: low}
}

func grantOf(from int, term uint64, l ...api.Entry) api.Message {
	return api.Message{Kind: api.MsgGrant, From: from, Term: term, Yes: true, Entries: l}
}

func appendOf(from int, e api.Entry, low, bits uint64) api.Message {
	return api.Message{Kind: api.MsgAppend, From: from, Term: e.Term, Low: low, Bits: bits, Entries: []api.Entry{e}}
}

func beatOf(from int, term, round, low, bits uint64) api.Message {
	return api.Message{Kind: api.MsgBeat, From: from, Term: term, Round: round, Low: low, Bits: bits}
}

func ackOf(from int, term, index uint64) api.Message {
	return api.Message{Kind: api.MsgAck, From: from, Term: term, Index: index}
}

func pulseOf(from int, term, round, low, bits uint64) api.Message {
	return api.Message{Kind: api.MsgPulse, From: from, Term: term, Yes: true, Round: round, Low: low, Bits: bits}
}

func snapOf(t *testing.T, from int, term uint64, i image.Image) api.Message {
	t.Helper()
	s, e := image.Make(i)
	if e != api.OK {
		t.Fatal(int(e))
	}
	return api.Message{Kind: api.MsgSnap, From: from, Term: term, Data: s}
}

func writeOf(client, req uint64, from uint32, data string) api.Message {
	return api.Message{Kind: api.MsgWrite, From: api.MaxNodes + int(client), Client: client, Req: req, Span: api.Span{From: from, Count: uint32(len(data) / api.BlockLen)}, Data: data}
}

func readOf(client, req uint64, from, count uint32) api.Message {
	return api.Message{Kind: api.MsgRead, From: api.MaxNodes + int(client), Client: client, Req: req, Span: api.Span{From: from, Count: count}}
}

// to is a message as a node says it.
func to(from, to int, term uint64, m api.Message) api.Message {
	m.From, m.To, m.Term = from, to, term
	return m
}

// others is a message as a node says it to each other one.
func others(c api.Config, from int, term uint64, m api.Message) []api.Message {
	var l []api.Message
	for i := range c.Nodes {
		if i != from {
			l = append(l, to(from, i, term, m))
		}
	}
	return l
}

// answerOf is an answer of a node to a client; lead is 1 and who leads.
func answerOf(from int, term, client, req uint64, e api.Errno, lead int, data string) api.Message {
	return to(from, api.MaxNodes+int(client), term, api.Message{Kind: api.MsgAnswer, Client: client, Req: req, Code: int(e), Index: uint64(lead), Data: data})
}

// leader is the node 0, leading in a term for which 1 voted, with what 1 has.
func leader(t *testing.T, c api.Config, l ...api.Entry) (*node.Node, *device.Device) {
	t.Helper()
	n, d := made(t, c, 0)
	n.Timer()
	n.Take(grantOf(1, 1, l...))
	for from := 2; n.Role() != node.Leader && from < c.Nodes; from++ {
		n.Take(grantOf(from, 1))
	}
	if n.Role() != node.Leader || n.Term() != 1 {
		t.Fatal("it doesn't lead")
	}
	return n, d
}

// majority lets so many others tell that they have an index that the node itself is one more that has it.
func majority(c api.Config, n *node.Node, index uint64) []api.Message {
	var l []api.Message
	for from := 1; from <= c.Nodes/2; from++ {
		l = append(l, n.Take(ackOf(from, n.Term(), index))...)
	}
	return l
}

// P27.1

func TestSectorsOfTheExample(t *testing.T) {
	if n := node.Sectors(api.Config{Nodes: 3, Behind: 2, Blocks: 8}); n != 80 {
		t.Error(n)
	}
}

// frames is how many sectors of 48 bytes a text takes, with the 8 bytes around it.
func frames(bytes int) int {
	return (bytes + 8 + 47) / 48
}

func TestSectors(t *testing.T) {
	for _, nodes := range []int{3, 5, 7} {
		for behind := 1; behind <= api.MaxBehind; behind++ {
			for blocks := 1; blocks <= api.MaxBlocks; blocks++ {
				entry := 52 + 8*min(blocks, api.MaxCount) + 24*behind
				want := 2 + (2*frames(96+4*blocks) + 2*blocks + 8) + 3*behind*2*frames(entry)
				c := api.Config{Nodes: nodes, Behind: behind, Blocks: uint32(blocks)}
				if got := node.Sectors(c); got != want || got > api.MaxSectors {
					t.Fatalf("%+v: %d, not %d", c, got, want)
				}
			}
		}
	}
}

// notFine are configs that are not.
func notFine() []api.Config {
	var l []api.Config
	for _, nodes := range []int{math.MinInt, -3, 0, 1, 2, 4, 6, 8, 9, math.MaxInt} {
		l = append(l, api.Config{Nodes: nodes, Behind: 1, Blocks: 1})
	}
	for _, behind := range []int{math.MinInt, -1, 0, api.MaxBehind + 1, math.MaxInt} {
		l = append(l, api.Config{Nodes: 3, Behind: behind, Blocks: 1})
	}
	for _, blocks := range []uint32{0, api.MaxBlocks + 1, math.MaxUint32} {
		l = append(l, api.Config{Nodes: 3, Behind: 1, Blocks: blocks})
	}
	return append(l, api.Config{})
}

func TestConfigsThatAreNotFine(t *testing.T) {
	for _, c := range notFine() {
		if n := node.Sectors(c); n != 0 {
			t.Errorf("%+v: %d sectors", c, n)
		}
		for _, d := range []*device.Device{nil, {}, device.New(api.MaxSectors)} {
			if n, e := node.Open(d, c, 0); n != nil || e != api.ErrArg {
				t.Errorf("%+v: %v, %d", c, n, int(e))
			}
		}
	}
}

func TestOpenOfWhom(t *testing.T) {
	for _, nodes := range []int{3, 5, 7} {
		c := api.Config{Nodes: nodes, Behind: 1, Blocks: 1}
		d := device.New(node.Sectors(c))
		for _, id := range []int{math.MinInt, -1, nodes, nodes + 1, api.MaxNodes, math.MaxInt} {
			if n, e := node.Open(d, c, id); n != nil || e != api.ErrArg {
				t.Errorf("%d of %d: %v, %d", id, nodes, n, int(e))
			}
		}
		for id := range nodes {
			if n, e := node.Open(d, c, id); n == nil || e != api.OK {
				t.Errorf("%d of %d: %d", id, nodes, int(e))
			}
		}
	}
	if n, e := node.Open(nil, three, 3); n != nil || e != api.ErrArg {
		t.Error("no such node ahead of no device", int(e))
	}
}

func TestOpenOfNoDevice(t *testing.T) {
	if n, e := node.Open(nil, three, 0); n != nil || e != api.ErrNil {
		t.Error("none:", int(e))
	}
	if n, e := node.Open(&device.Device{}, three, 0); n != nil || e != api.ErrRange {
		t.Error("without sectors:", int(e))
	}
	d := device.New(node.Sectors(three))
	d.Fuse(0)
	d.Flush()
	if n, e := node.Open(d, three, 0); n != nil || e != api.ErrDown {
		t.Error("without power:", int(e))
	}
}

func TestOpenOfTooFewSectors(t *testing.T) {
	for _, c := range []api.Config{three, {Nodes: 7, Behind: 1, Blocks: 1}, {Nodes: 5, Behind: api.MaxBehind, Blocks: api.MaxBlocks}} {
		enough := node.Sectors(c)
		for _, n := range []int{1, 2, 3, 20, enough - 1} {
			if got, e := node.Open(device.New(n), c, 0); got != nil || e != api.ErrRange {
				t.Errorf("%d of %d: %d", n, enough, int(e))
			}
		}
		opened(t, device.New(enough), c, 0)
		opened(t, device.New(enough+1), c, c.Nodes-1)
	}
}

// spoiled is a device on which a twin has a text.
func spoiled(t *testing.T, base, size int, s string) *device.Device {
	t.Helper()
	d := device.New(node.Sectors(three))
	w, e := twin.Open(d, base, size)
	is(t, "a twin", e, api.OK)
	is(t, "its text", w.Save([]byte(s)), api.OK)
	return d
}

func TestOpenHandsErrorsOn(t *testing.T) {
	vow := spoiled(t, 0, 1, "x")
	if n, e := node.Open(vow, three, 0); n != nil || e != api.ErrForm {
		t.Error("a vow that is none:", int(e))
	}
	store := spoiled(t, 2, 3, "x")
	if n, e := node.Open(store, three, 0); n != nil || e != api.ErrForm {
		t.Error("a store that is none:", int(e))
	}
	small := device.New(node.Sectors(three) - 1)
	w, _ := twin.Open(small, 0, 1)
	w.Save([]byte("x"))
	if n, e := node.Open(small, three, 0); n != nil || e != api.ErrForm {
		t.Error("the vow ahead of the slots:", int(e))
	}
}

// worn is a device on which a frame from a sector on has the greatest number, so that none can have a greater one.
func worn(t *testing.T, at int) *device.Device {
	t.Helper()
	d := device.New(node.Sectors(three))
	b, e := frame.Make(greatest, []byte("x"))
	is(t, "a frame", e, api.OK)
	is(t, "a frame", d.Write(at, b), api.OK)
	return d
}

func TestNoNumberIsLeft(t *testing.T) {
	d := device.New(node.Sectors(three))
	text := append([]byte{3}, make([]byte, 8)...) // the term 3, and no vote
	b, _ := frame.Make(greatest, text)
	d.Write(0, b)
	n := opened(t, d, three, 0)
	if n.Term() != 3 {
		t.Fatal(state(n))
	}
	stays(t, "a timer", n, n.Timer)
	stays(t, "a greater term", n, func() []api.Message { return n.Take(voteOf(1, 4, 9)) })
	tells(t, "a vote", n.Take(voteOf(1, 3, 9)), to(0, 1, 3, api.Message{Kind: api.MsgGrant}))

	slot := 2 + (2*3 + 24) // behind the vow and the store: of the index 12, and of those that are 12 apart
	size := frames(52 + 64 + 24*4)
	n = opened(t, worn(t, slot+2*size), three, 0) // of the index 1
	tells(t, "an append", n.Take(appendOf(1, put(1, 1), 0, 0)))
	tells(t, "another one", n.Take(appendOf(1, put(2, 1), 0, 0)), to(0, 1, 1, api.Message{Kind: api.MsgAck, Index: 2}))
	n = opened(t, worn(t, slot+2*size), three, 0)
	n.Timer()
	stays(t, "a vote that would win", n, func() []api.Message { return n.Take(grantOf(1, 1, put(1, 1))) })
	n = opened(t, worn(t, slot+2*size), three, 0)
	n.Timer()
	n.Take(grantOf(1, 1))
	tells(t, "a write", n.Take(writeOf(2, 5, 0, "01234567")), answerOf(0, 1, 2, 5, api.ErrFull, 1, ""))
	holds(t, "a write", n)
	tells(t, "once more", n.Take(writeOf(2, 5, 0, "01234567")), answerOf(0, 1, 2, 5, api.ErrFull, 1, ""))
}

func TestOpenOnANewDevice(t *testing.T) {
	for id := range three.Nodes {
		n, d := made(t, three, id)
		if n.Role() != node.Follower || n.Term() != 0 || n.Serves() || n.Marks() != (api.Marks{}) || n.Low() != 0 || n.Down() {
			t.Error(state(n))
		}
		if v, ok := n.Vote(); v != 0 || ok {
			t.Error(v, ok)
		}
		leads(t, "new", n, 0, false)
		holds(t, "new", n)
		freshly(t, "new", n)
		if i, e := n.Image(); i != nothing(three) || e != api.OK {
			t.Error(i, int(e))
		}
		if d.Done() != 0 {
			t.Error("opening changes the device")
		}
	}
}

func TestOpenAgain(t *testing.T) {
	n, d := made(t, three, 2)
	l := row(1, 6, 5, 4)
	for _, e := range l {
		n.Take(appendOf(1, e, 0, 0))
	}
	n.Take(beatOf(1, 5, 1, 3, 0)) // three are applied, and not saved
	n.Take(voteOf(0, 7, 9))
	d.Crash()
	n = opened(t, d, three, 2)
	if n.Role() != node.Follower || n.Term() != 7 || n.Low() != 0 {
		t.Error(state(n))
	}
	if v, ok := n.Vote(); v != 0 || !ok {
		t.Error(v, ok)
	}
	leads(t, "again", n, 0, false)
	holds(t, "again", n, 1, 2, 3, 4, 5, 6)
	marked(t, "what wasn't saved", n, api.Marks{})
	freshly(t, "again", n)
	for i, e := range n.Entries() {
		if !entry.Same(e, l[i]) {
			t.Errorf("%+v, not %+v", e, l[i])
		}
	}
}

func TestOpenTrimsWhatIsSaved(t *testing.T) {
	n, d := made(t, three, 2)
	for _, e := range row(1, 6, 5, 4) {
		n.Take(appendOf(1, e, 0, 0))
	}
	n.Take(beatOf(1, 5, 1, 3, 0))
	is(t, "a save", n.Save(), api.OK)
	was, _ := n.Image()
	n = opened(t, d, three, 2)
	holds(t, "the slots have them still", n, 4, 5, 6)
	if n.Low() != 3 {
		t.Error(n.Low())
	}
	if i, e := n.Image(); i != was || e != api.OK || i.Marks != (api.Marks{Low: 3}) {
		t.Error(i, int(e))
	}
	tells(t, "opened, it knows of nothing that is committed", n.Take(voteOf(0, 9, 2)), to(2, 0, 9, api.Message{Kind: api.MsgGrant}))
}

func TestNil(t *testing.T) {
	for what, n := range map[string]*node.Node{"nil": nil, "that no call made": {}} {
		for _, m := range []api.Message{{}, voteOf(1, 1, 0), grantOf(1, 0), appendOf(1, put(1, 1), 0, 0), beatOf(1, 1, 1, 1, 1), snapOf(t, 1, 1, nothing(three)), ackOf(1, 0, 1), pulseOf(1, 0, 1, 1, 1), writeOf(1, 1, 0, text("a", 1)), readOf(1, 1, 0, 1)} {
			if l := n.Take(m); len(l) != 0 {
				t.Error(what, l)
			}
		}
		if l := n.Timer(); len(l) != 0 {
			t.Error(what, l)
		}
		is(t, what, n.Save(), api.ErrNil)
		if n.Role() != node.Follower || n.Term() != 0 || n.Serves() || n.Marks() != (api.Marks{}) || n.Low() != 0 || len(n.Entries()) != 0 || len(n.Fresh()) != 0 || !n.Down() {
			t.Error(what, "says something")
		}
		if v, ok := n.Vote(); v != 0 || ok {
			t.Error(what, v, ok)
		}
		leads(t, what, n, 0, false)
		if i, e := n.Image(); i != (image.Image{}) || e != api.ErrNil {
			t.Error(what, i, int(e))
		}
	}
}

func TestFreshIsOfTheLastCall(t *testing.T) {
	n, _ := made(t, three, 1)
	for _, e := range row(1, 4, 2, 4) {
		n.Take(appendOf(0, e, 0, 0))
		freshly(t, "not committed", n)
	}
	n.Take(beatOf(0, 2, 1, 2, 0))
	freshly(t, "two", n, 1, 2)
	is(t, "a save", n.Save(), api.OK)
	freshly(t, "a save is neither", n, 1, 2)
	l := n.Fresh()
	if want := row(1, 4, 2, 4)[1]; !entry.Same(l[1], want) {
		t.Errorf("%+v, not %+v", l[1], want)
	}
	n.Take(beatOf(0, 2, 2, 3, 1))
	freshly(t, "in order", n, 3, 4)
	n.Take(api.Message{})
	freshly(t, "nobody's", n)
	n.Take(beatOf(0, 3, 1, 4, 0))
	n.Timer()
	freshly(t, "a timer", n)
}

func TestWhatIsToldIsItsOwn(t *testing.T) {
	n, _ := made(t, three, 1)
	l := row(1, 4, 2, 4)
	for _, e := range l {
		m := appendOf(0, e, 0, 0)
		m.Entries = slices.Clone(m.Entries)
		m.Entries[0].Behind = slices.Clone(e.Behind)
		n.Take(m)
		m.Entries[0].Req = 99
		for k := range m.Entries[0].Behind {
			m.Entries[0].Behind[k].Req = 99
		}
	}
	check := func(what string) {
		t.Helper()
		for i, e := range n.Entries() {
			if !entry.Same(e, l[i]) {
				t.Errorf("%s: %+v, not %+v", what, e, l[i])
			}
		}
	}
	check("handed in")
	over := func(l []api.Entry) {
		for i := range l {
			for k := range l[i].Behind {
				l[i].Behind[k] = api.Look{Client: 7}
			}
			l[i] = api.Entry{}
		}
	}
	over(n.Entries())
	check("entries")
	for _, m := range n.Take(voteOf(2, 3, 0)) {
		over(m.Entries)
	}
	check("a grant")
	n.Take(beatOf(0, 3, 1, 0, 0))
	for _, e := range row(1, 4, 3, 4) {
		n.Take(appendOf(0, e, 0, 0))
	}
	n.Take(beatOf(0, 3, 1, 3, 0))
	over(n.Fresh())
	freshly(t, "written over", n, 1, 2, 3)
	if f := n.Fresh(); len(f[2].Behind) != 2 || f[2].Behind[0].Req != 2 {
		t.Error(f)
	}
}

func TestEachMessageHasListsOfItsOwn(t *testing.T) {
	n, _ := leader(t, three, row(1, 3, 0, 4)...)
	n.Take(ackOf(1, 1, 1))
	n, _ = made(t, three, 0)
	n.Timer()
	var l []api.Message
	for _, m := range n.Take(grantOf(2, 1, row(1, 3, 1, 4)...)) {
		if m.Kind == api.MsgAppend {
			l = append(l, m)
		}
	}
	want := telling(l[1:])
	for k := range l[0].Entries[0].Behind {
		l[0].Entries[0].Behind[k].Req = 99
	}
	l[0].Entries[0].Req = 99
	if !slices.Equal(telling(l[1:]), want) {
		t.Error("two messages share a list")
	}
	for _, e := range n.Entries() {
		if e.Req == 99 {
			t.Error("a message shares a list with what is held")
		}
	}
}

func TestWhatIsHandedInStays(t *testing.T) {
	n, _ := made(t, three, 0)
	n.Take(appendOf(1, put(1, 1), 1, 0))
	freshly(t, "done", n, 1)
	n.Timer()
	again := put(3, 1)
	again.Client, again.Req = put(1, 1).Client, put(1, 1).Req // it comes again
	room := make([]api.Entry, 4, 8)
	copy(room, []api.Entry{put(2, 1), again, put(4, 1), entry.Noop(5, 1, 1)})
	was := fmt.Sprintf("%+v", room[:8])
	n.Take(grantOf(1, 2, room...))
	if n.Role() != node.Leader || len(n.Entries()) != 4 {
		t.Fatal(state(n))
	}
	if now := fmt.Sprintf("%+v", room[:8]); now != was {
		t.Errorf("%s, not %s", now, was)
	}
}

func TestSave(t *testing.T) {
	n, d := made(t, three, 1)
	is(t, "of nothing", n.Save(), api.OK)
	for _, e := range row(1, 6, 2, 4) {
		n.Take(appendOf(0, e, 0, 0))
	}
	n.Take(beatOf(0, 2, 1, 2, 2))
	marked(t, "with a hole", n, api.Marks{Low: 2, Bits: 2})
	is(t, "with a hole", n.Save(), api.OK)
	if n.Low() != 2 {
		t.Error(n.Low())
	}
	holds(t, "saved", n, 3, 4, 5, 6)
	d.Crash()
	n = opened(t, d, three, 1)
	marked(t, "what was saved", n, api.Marks{Low: 2, Bits: 2})
	holds(t, "opened", n, 3, 4, 5, 6)
	d.Fuse(0)
	is(t, "the power goes", n.Save(), api.ErrDown)
	is(t, "it is gone", n.Save(), api.ErrDown)
	if n.Low() != 2 {
		t.Error(n.Low())
	}
}

// everything is a message of each kind, of somebody and of nobody.
func everything(t *testing.T, term uint64) []api.Message {
	return []api.Message{
		voteOf(1, term, 9), grantOf(1, term, put(1, 1)), grantOf(2, term), appendOf(1, put(1, term), 1, 0), beatOf(1, term, 1, 1, 0),
		snapOf(t, 1, term, image.Image{Marks: api.Marks{Low: 9}, Blocks: text("s", 8)}), ackOf(1, term, 1), pulseOf(1, term, 1, 1, 1),
		writeOf(1, 1, 0, text("a", 1)), readOf(1, 1, 0, 1), {}, {From: 1, Term: term, Kind: api.MsgAnswer},
	}
}

func TestWithoutPower(t *testing.T) {
	makers := map[string]func() (*node.Node, *device.Device){
		"a follower": func() (*node.Node, *device.Device) {
			n, d := made(t, three, 0)
			n.Take(appendOf(1, put(1, 1), 0, 0))
			return n, d
		},
		"a candidate": func() (*node.Node, *device.Device) {
			n, d := made(t, three, 0)
			n.Timer()
			return n, d
		},
		"a leader": func() (*node.Node, *device.Device) {
			n, d := leader(t, three, row(1, 2, 1, 4)...)
			n.Take(ackOf(1, 1, 1))
			return n, d
		},
	}
	for what, maker := range makers {
		n, d := maker()
		d.Fuse(0)
		d.Flush()
		if !n.Down() {
			t.Fatal(what)
		}
		for _, term := range []uint64{0, 1, 2} {
			for _, m := range everything(t, term) {
				stays(t, what, n, func() []api.Message { return n.Take(m) })
				freshly(t, what, n)
			}
		}
		stays(t, what, n, n.Timer)
		is(t, what, n.Save(), api.ErrDown)
		if i, e := n.Image(); i != (image.Image{}) || e != api.ErrDown {
			t.Error(what, i, int(e))
		}
	}
}

// P27.2: timers

func TestTimerOfAFollower(t *testing.T) {
	for _, c := range []api.Config{three, {Nodes: 5, Behind: 1, Blocks: 1}, {Nodes: 7, Behind: 64, Blocks: 64}} {
		for id := range c.Nodes {
			n, d := made(t, c, id)
			tells(t, "new", n.Timer(), others(c, id, 1, api.Message{Kind: api.MsgVote})...)
			if n.Role() != node.Candidate || n.Term() != 1 || n.Serves() {
				t.Error(state(n))
			}
			if v, ok := n.Vote(); v != id || !ok {
				t.Error(v, ok)
			}
			leads(t, "a candidate", n, 0, false)
			if d.Loose() != 0 {
				t.Error("its vote isn't safe")
			}
		}
	}
}

func TestTimerOfOneWhoKnowsALeader(t *testing.T) {
	n, _ := made(t, three, 2)
	for _, e := range row(1, 5, 3, 4) {
		n.Take(appendOf(1, e, 0, 0))
	}
	n.Take(beatOf(1, 3, 1, 2, 2))
	marked(t, "ahead", n, api.Marks{Low: 2, Bits: 2})
	leads(t, "ahead", n, 1, true)
	tells(t, "its base is its store's", n.Timer(), others(three, 2, 4, api.Message{Kind: api.MsgVote, Low: 2})...)
	leads(t, "behind", n, 0, false)
	n.Take(beatOf(1, 4, 1, 0, 0)) // somebody else leads after all
	marked(t, "what was committed it knows no more", n, api.Marks{Low: 2, Bits: 2})
	freshly(t, "what was committed it knows no more", n)
}

func TestTimerOfACandidate(t *testing.T) {
	n, _ := made(t, three, 0)
	for term := uint64(1); term < 6; term++ { // nobody hears it
		tells(t, "alone", n.Timer(), others(three, 0, term, api.Message{Kind: api.MsgVote})...)
		if n.Role() != node.Candidate || n.Term() != term {
			t.Error(state(n))
		}
	}
	stays(t, "a vote of an earlier term", n, func() []api.Message { return n.Take(grantOf(1, 4)) })
	n.Take(grantOf(1, 5))
	if n.Role() != node.Leader {
		t.Error(state(n))
	}
}

func TestTimerOfALeader(t *testing.T) {
	n, d := leader(t, three, row(1, 3, 1, 4)...)
	n.Take(ackOf(2, 1, 2))
	was := d.Done()
	for round := uint64(2); round < 5; round++ { // the first one was begun when it won
		tells(t, "a round", n.Timer(), others(three, 0, 1, api.Message{Kind: api.MsgBeat, Round: round, Bits: 2})...)
	}
	n.Take(ackOf(2, 1, 1))
	tells(t, "a round", n.Timer(), others(three, 0, 1, api.Message{Kind: api.MsgBeat, Round: 5, Low: 2})...)
	if n.Role() != node.Leader || n.Term() != 1 || d.Done() == was+100 {
		t.Error(state(n))
	}
	leads(t, "itself", n, 0, true)
}

func TestTimerOfTheGreatestTerm(t *testing.T) {
	n, _ := made(t, three, 0)
	n.Take(beatOf(2, api.MaxIndex, 1, 0, 0))
	if n.Term() != api.MaxIndex {
		t.Fatal(n.Term())
	}
	stays(t, "a follower", n, n.Timer)
	leads(t, "a follower", n, 2, true)
	n, _ = made(t, three, 0)
	n.Take(api.Message{From: 2, Term: api.MaxIndex - 1})
	n.Timer()
	stays(t, "a candidate", n, n.Timer)
	if n.Role() != node.Candidate || n.Term() != api.MaxIndex {
		t.Error(state(n))
	}
	n.Take(grantOf(2, api.MaxIndex))
	tells(t, "a leader", n.Timer(), others(three, 0, api.MaxIndex, api.Message{Kind: api.MsgBeat, Round: 2})...)
}

// P27.2: terms

// kinds are all kinds of messages, and others.
var kinds = []int{math.MinInt, -1, 0, api.MsgVote, api.MsgGrant, api.MsgAppend, api.MsgAck, api.MsgBeat, api.MsgPulse, api.MsgSnap, api.MsgWrite, api.MsgRead, api.MsgAnswer, 11, math.MaxInt}

func TestAGreaterTermIsTaken(t *testing.T) {
	makers := map[string]func() *node.Node{
		"a follower": func() *node.Node {
			n, _ := made(t, three, 0)
			n.Take(beatOf(1, 1, 1, 0, 0))
			return n
		},
		"a candidate": func() *node.Node {
			n, _ := made(t, three, 0)
			n.Timer()
			return n
		},
		"a leader": func() *node.Node {
			n, _ := leader(t, three)
			n.Take(readOf(1, 1, 0, 1))
			n.Take(writeOf(1, 2, 0, text("w", 1)))
			return n
		},
	}
	for what, maker := range makers {
		for _, kind := range kinds {
			for _, term := range []uint64{2, 3, 99, api.MaxIndex} {
				n := maker()
				n.Take(api.Message{Kind: kind, From: 2, Term: term})
				if n.Term() != term || n.Role() != node.Follower || n.Serves() {
					t.Errorf("%s, %d, %d: %s", what, kind, term, state(n))
				}
				_, voted := n.Vote()
				if voted != (kind == api.MsgVote) {
					t.Errorf("%s, %d: %t", what, kind, voted)
				}
				knows := kind == api.MsgAppend || kind == api.MsgBeat || kind == api.MsgSnap
				leads(t, what, n, map[bool]int{true: 2}[knows], knows)
			}
		}
		for _, kind := range kinds {
			for _, term := range []uint64{api.MaxIndex + 1, greatest} {
				n := maker()
				stays(t, what+", and a term above all", n, func() []api.Message {
					return n.Take(api.Message{Kind: kind, From: 2, Term: term, Yes: true})
				})
			}
		}
	}
}

func TestALowerTermIsRefused(t *testing.T) {
	for _, kind := range kinds {
		for _, term := range []uint64{0, 1, 4} {
			for _, role := range []int{node.Follower, node.Candidate, node.Leader} {
				n, _ := made(t, three, 1)
				n.Take(api.Message{From: 0, Term: 4})
				n.Timer()
				if role == node.Leader {
					n.Take(grantOf(0, 5))
				}
				if role == node.Follower {
					n.Take(beatOf(0, 5, 1, 0, 0))
				}
				if n.Role() != role || n.Term() != 5 {
					t.Fatal(state(n))
				}
				m := api.Message{Kind: kind, From: 2, Term: term, Yes: true, Index: 1, Low: 3, Bits: 1, Round: 9, Entries: []api.Entry{put(1, term)}}
				was := state(n)
				got := n.Take(m)
				switch kind {
				case api.MsgVote:
					tells(t, "a vote", got, to(1, 2, 5, api.Message{Kind: api.MsgGrant}))
				case api.MsgAppend, api.MsgBeat, api.MsgSnap:
					tells(t, "of who led", got, to(1, 2, 5, api.Message{Kind: api.MsgPulse}))
				default:
					tells(t, fmt.Sprint("others: ", kind), got)
				}
				if now := state(n); now != was {
					t.Errorf("%d of %d: %s, not %s", kind, term, now, was)
				}
			}
		}
	}
}

func TestMessagesOfNobody(t *testing.T) {
	for _, c := range []api.Config{three, {Nodes: 5, Behind: 2, Blocks: 8}, {Nodes: 7, Behind: 2, Blocks: 8}} {
		n, _ := leader(t, c, row(1, 2, 1, 2)...)
		for _, from := range []int{math.MinInt, -1, 0, c.Nodes, api.MaxNodes, api.MaxNodes + 1, api.MaxNodes + 9, math.MaxInt} {
			if from > 0 && from < c.Nodes {
				continue
			}
			for _, kind := range kinds {
				for _, term := range []uint64{0, 1, 2} {
					m := api.Message{Kind: kind, From: from, Term: term, Yes: true, Index: 1, Low: 2, Round: 1, Entries: []api.Entry{put(1, term)}}
					stays(t, fmt.Sprint("a message of ", from), n, func() []api.Message { return n.Take(m) })
				}
			}
		}
	}
}

func TestToWhomItIsIsOfNoMatter(t *testing.T) {
	for _, whom := range []int{math.MinInt, -1, 0, 1, 2, 3, 99} {
		n, _ := made(t, three, 1)
		m := voteOf(2, 1, 0)
		m.To = whom
		tells(t, "a vote", n.Take(m), to(1, 2, 1, api.Message{Kind: api.MsgGrant, Yes: true}))
	}
}

// P27.2: votes

func TestVotes(t *testing.T) {
	n, d := made(t, three, 1)
	l := row(1, 6, 2, 4)
	for _, e := range l {
		n.Take(appendOf(0, e, 0, 0))
	}
	n.Take(beatOf(0, 2, 1, 3, 2))
	is(t, "a save", n.Save(), api.OK) // up to 3; 5 is applied, too
	refused := func(term uint64) api.Message { return to(1, 2, term, api.Message{Kind: api.MsgGrant}) }
	granted := func(term uint64, l []api.Entry) api.Message {
		return to(1, 2, term, api.Message{Kind: api.MsgGrant, Yes: true, Low: 3, Entries: l})
	}
	tells(t, "below its slots' Low", n.Take(voteOf(2, 3, 2)), refused(3))
	if v, ok := n.Vote(); v != 0 || ok || n.Term() != 3 {
		t.Error(v, ok, n.Term())
	}
	tells(t, "at it", n.Take(voteOf(2, 3, 3)), granted(3, l[3:]))
	if v, ok := n.Vote(); v != 2 || !ok || d.Loose() != 0 {
		t.Error(v, ok, d.Loose())
	}
	tells(t, "twice by one", n.Take(voteOf(2, 3, 3)), granted(3, l[3:]))
	tells(t, "twice by one, below", n.Take(voteOf(2, 3, 0)), refused(3))
	tells(t, "by another one in that term", n.Take(voteOf(0, 3, 9)), to(1, 0, 3, api.Message{Kind: api.MsgGrant}))
	tells(t, "above it", n.Take(voteOf(2, 4, 5)), granted(4, l[5:]))
	tells(t, "above all", n.Take(voteOf(2, 5, 6)), granted(5, nil))
	tells(t, "far above", n.Take(voteOf(2, 6, greatest)), granted(6, nil))
	tells(t, "in a term that can't be", n.Take(voteOf(2, greatest, 9)))
	if n.Term() != 6 || n.Role() != node.Follower {
		t.Error(state(n))
	}
}

func TestVotesOfWhoStands(t *testing.T) {
	n, _ := made(t, three, 1)
	n.Timer()
	no := to(1, 2, 1, api.Message{Kind: api.MsgGrant})
	tells(t, "a candidate", n.Take(voteOf(2, 1, 9)), no)
	n.Take(grantOf(0, 1))
	tells(t, "a leader", n.Take(voteOf(2, 1, 9)), no)
	if n.Role() != node.Leader {
		t.Error(state(n))
	}
	tells(t, "of a greater term", n.Take(voteOf(2, 2, 0)), to(1, 2, 2, api.Message{Kind: api.MsgGrant, Yes: true}))
	if n.Role() != node.Follower {
		t.Error(state(n))
	}
}

func TestAVoteTellsEntriesOfAllTerms(t *testing.T) {
	n, _ := made(t, three, 1)
	a, b := put(2, 1), put(4, 3)
	n.Take(appendOf(0, a, 0, 0))
	n.Take(appendOf(2, b, 0, 0))
	tells(t, "of all terms", n.Take(voteOf(0, 9, 0)), to(1, 0, 9, api.Message{Kind: api.MsgGrant, Yes: true, Entries: []api.Entry{a, b}}))
}

// P27.2: grants

func TestGrants(t *testing.T) {
	n, _ := made(t, api.Config{Nodes: 5, Behind: 2, Blocks: 8}, 2)
	n.Timer()
	n.Timer()
	no := grantOf(0, 2)
	no.Yes = false
	bad := put(1, 1)
	bad.Data = "short"
	for what, m := range map[string]api.Message{
		"without Yes": no, "of an earlier term": grantOf(0, 1), "of itself": grantOf(2, 2), "of nobody": grantOf(5, 2),
		"with one that isn't good": grantOf(0, 2, put(1, 1), bad),
	} {
		stays(t, what, n, func() []api.Message { return n.Take(m) })
	}
	stays(t, "the first one", n, func() []api.Message { return n.Take(grantOf(4, 2)) })
	stays(t, "of who has voted", n, func() []api.Message { return n.Take(grantOf(4, 2)) })
	stays(t, "of one whose list wasn't good", n, func() []api.Message { return n.Take(grantOf(0, 2, bad)) })
	got := n.Take(grantOf(0, 2))
	if n.Role() != node.Leader {
		t.Fatal(state(n))
	}
	tells(t, "won with nothing", got, others(api.Config{Nodes: 5}, 2, 2, api.Message{Kind: api.MsgBeat, Round: 1})...)
	leads(t, "won", n, 2, true)
	if !n.Serves() {
		t.Error("it serves not, though there is nothing to apply")
	}
	stays(t, "one more", n, func() []api.Message { return n.Take(grantOf(1, 2, put(1, 1))) })
}

func TestGrantsToWhoDoesNotStand(t *testing.T) {
	n, _ := made(t, three, 0)
	n.Take(api.Message{From: 1, Term: 3})
	stays(t, "a follower", n, func() []api.Message { return n.Take(grantOf(1, 3)) })
	n.Timer()
	n.Take(beatOf(1, 4, 1, 0, 0))
	stays(t, "one who stood", n, func() []api.Message { return n.Take(grantOf(1, 4)) })
	n.Take(grantOf(1, 5))
	if n.Role() != node.Follower || n.Term() != 5 {
		t.Error("a grant of a term to come", state(n))
	}
}

// worst are entries that are not good, each in one way.
func worst(term uint64) []api.Entry {
	var l []api.Entry
	add := func(change func(*api.Entry)) {
		e := row(1, 3, term, 4)[2]
		change(&e)
		l = append(l, e)
	}
	add(func(e *api.Entry) { e.Index = 0 })
	add(func(e *api.Entry) { e.Index = api.MaxIndex - api.MaxMarks + 1 })
	add(func(e *api.Entry) { e.Start = 0 })
	add(func(e *api.Entry) { e.Kind = 0 })
	add(func(e *api.Entry) { e.Kind = api.KindNoop })
	add(func(e *api.Entry) { e.Client = 0 })
	add(func(e *api.Entry) { e.Client = api.MaxClients + 1 })
	add(func(e *api.Entry) { e.Req = 0 })
	add(func(e *api.Entry) { e.Span = api.Span{From: 8, Count: 1} })
	add(func(e *api.Entry) { e.Span = api.Span{} })
	add(func(e *api.Entry) { e.Data = e.Data[1:] })
	add(func(e *api.Entry) { e.Data += "x" })
	add(func(e *api.Entry) { e.Behind = make([]api.Look, 3) })
	add(func(e *api.Entry) { e.Index, e.Behind = 9, make([]api.Look, 5) })
	add(func(e *api.Entry) { e.Behind = []api.Look{{Client: 9, Req: 1, Span: api.Span{Count: 1}}} })
	return l
}

func TestGrantsWithEntriesThatAreNotGood(t *testing.T) {
	for i, e := range worst(1) {
		for _, l := range [][]api.Entry{{e}, {put(7, 1), e}, {e, put(7, 1)}} {
			n, _ := made(t, three, 0)
			n.Timer()
			stays(t, fmt.Sprint("the ", i), n, func() []api.Message { return n.Take(grantOf(1, 1, l...)) })
			n.Take(grantOf(1, 1))
			if n.Role() != node.Leader {
				t.Error(i, "it has voted, with a list that is good")
			}
		}
	}
}

// wins lets a candidate win, and tells what it goes on with: of each index the entry it tells to the last node.
func wins(t *testing.T, n *node.Node, c api.Config, m api.Message) []api.Entry {
	t.Helper()
	got := n.Take(m)
	if n.Role() != node.Leader {
		t.Fatal("it isn't the leader:", state(n))
	}
	return carried(t, got, n.Term(), c)
}

// carried tells the entries that are told to the last node, and checks that each other one is told the same.
func carried(t *testing.T, l []api.Message, term uint64, c api.Config) []api.Entry {
	t.Helper()
	by := map[int][]api.Entry{}
	for _, m := range l {
		if m.Kind == api.MsgAppend {
			if m.Term != term || len(m.Entries) != 1 {
				t.Errorf("%+v", m)
			}
			by[m.To] = append(by[m.To], m.Entries...)
		}
	}
	for to := range c.Nodes {
		if to != l[0].From && fmt.Sprint(by[to]) != fmt.Sprint(by[(l[0].From+c.Nodes-1)%c.Nodes]) {
			t.Error("not all are told the same")
		}
	}
	return by[(l[0].From+c.Nodes-1)%c.Nodes]
}

func TestAMergeWithHoles(t *testing.T) {
	n, _ := made(t, three, 0)
	n.Take(appendOf(1, put(2, 1), 0, 0))
	n.Timer() // the term 2
	other := put(5, 1)
	other.Start = 9
	got := n.Take(grantOf(2, 2, other))
	low := api.Message{Kind: api.MsgAppend}
	want := []api.Entry{entry.Noop(1, 2, 6), put(2, 2), entry.Noop(3, 2, 6), entry.Noop(4, 2, 6), put(5, 2)}
	looks := make([]api.Look, 0)
	var all []api.Message
	for i := range want {
		want[i].Start, want[i].Behind = 6, slices.Clone(looks)
		if len(looks) > 4 {
			want[i].Behind = looks[:4]
		}
		looks = append([]api.Look{entry.Look(want[i])}, looks...)
		low.Entries = []api.Entry{want[i]}
		all = append(all, others(three, 0, 2, low)...)
	}
	tells(t, "won", got, append(all, others(three, 0, 2, api.Message{Kind: api.MsgBeat, Round: 1})...)...)
	for i, e := range n.Entries() {
		if !entry.Same(e, want[i]) {
			t.Errorf("%+v, not %+v", e, want[i])
		}
	}
	if n.Serves() || len(n.Entries()) != 5 {
		t.Error(state(n))
	}
	n.Take(pulseOf(1, 2, 1, 0, 15)) // one has all but the last one
	marked(t, "all but one", n, api.Marks{Low: 4})
	if n.Serves() {
		t.Error("it serves ahead of having applied all")
	}
	n.Take(ackOf(2, 2, 5))
	if !n.Serves() {
		t.Error(state(n))
	}
}

func TestAMergeSaves(t *testing.T) {
	n, d := made(t, three, 0)
	for _, e := range row(1, 4, 1, 4) {
		n.Take(appendOf(1, e, 0, 0))
	}
	n.Take(beatOf(1, 1, 1, 2, 2))
	marked(t, "not saved", n, api.Marks{Low: 2, Bits: 2})
	n.Timer()
	if n.Low() != 0 {
		t.Error(n.Low())
	}
	l := wins(t, n, three, grantOf(1, 2, row(3, 4, 1, 4)...))
	if n.Low() != 2 || len(l) != 2 || l[0].Index != 3 || l[1].Start != 5 {
		t.Error(n.Low(), l)
	}
	holds(t, "won", n, 3, 4)
	d.Crash()
	n = opened(t, d, three, 0)
	marked(t, "saved", n, api.Marks{Low: 2, Bits: 2})
	holds(t, "saved", n, 3, 4)
}

func TestAMergeOfTheFullSlots(t *testing.T) {
	c := api.Config{Nodes: 3, Behind: 2, Blocks: 8}
	n, _ := made(t, c, 0)
	n.Timer()
	last := put(6, 0)
	last.Term = 1
	if l := wins(t, n, c, grantOf(1, 1, last)); len(l) != 6 {
		t.Error("as many as there are slots:", l)
	}
	n, _ = made(t, c, 0)
	n.Timer()
	stays(t, "one more than there are slots", n, func() []api.Message { return n.Take(grantOf(1, 1, put(7, 1))) })
	if n.Role() != node.Candidate {
		t.Error(state(n))
	}
	leads(t, "not won", n, 0, false)
	n, _ = made(t, c, 0)
	n.Timer()
	if l := wins(t, n, c, grantOf(1, 1, put(api.MaxLog+1, 1))); len(l) != 0 {
		t.Error("what is above all that is gone on with:", l)
	}
}

func TestComesAgain(t *testing.T) {
	// The node has applied 1 to 3, of which 2 is the request 30 of the client 2, and 6, of which it is the request 40 of the client 3.
	c := api.Config{Nodes: 3, Behind: 8, Blocks: 8}
	with := func(client, req, index uint64) api.Entry {
		e := put(index, 1)
		e.Client, e.Req = client, req
		return e
	}
	base := func() *node.Node {
		n, _ := made(t, c, 0)
		l := row(1, 6, 1, 8)
		l[1].Client, l[1].Req = 2, 30
		l[5].Client, l[5].Req = 3, 40
		l[5].Behind = make([]api.Look, 5)
		for _, k := range []int{0, 1, 2, 5} {
			n.Take(appendOf(1, l[k], 0, 0))
		}
		n.Take(beatOf(1, 1, 1, 3, 4))
		marked(t, "the base", n, api.Marks{Low: 3, Bits: 4})
		return n
	}
	for what, x := range map[string]struct {
		e     api.Entry
		again bool
	}{
		"done, above all":              {with(2, 30, 8), true},
		"done elsewhere above all":     {with(3, 40, 7), true},
		"done, in a hole":              {with(2, 30, 5), true},
		"done, in another hole":        {with(3, 40, 4), true},
		"old, above all":               {with(2, 14, 8), true},
		"old, one above all":           {with(2, 14, 7), true},
		"old by far, above all":        {with(3, 1, 9), true},
		"old, in a hole":               {with(2, 14, 5), false},
		"old, in the first hole":       {with(3, 24, 4), false},
		"not old, and not done":        {with(2, 15, 8), false},
		"above what was done":          {with(2, 31, 8), false},
		"of another client":            {with(4, 30, 8), false},
		"at an index that was applied": {with(3, 40, 6), false},
		"another one at such an index": {with(2, 30, 6), false},
		"an old one at the Top":        {with(2, 14, 6), false},
		"a noop":                       {entry.Noop(8, 1, 1), false},
	} {
		n := base()
		n.Timer()
		l := wins(t, n, c, grantOf(1, 2, x.e))
		found := slices.ContainsFunc(l, func(e api.Entry) bool {
			return e.Index == x.e.Index && e.Kind == x.e.Kind && e.Client == x.e.Client && e.Req == x.e.Req
		})
		own := x.e.Index == 6 && x.e.Term == 1 && (x.e.Client != 3 || x.e.Req != 40) // its own one is the first of that term
		if found == x.again && !own {
			t.Errorf("%s: %t, %+v", what, found, l)
		}
		if x.e.Index > 6 && len(l) != map[bool]int{true: 3, false: int(x.e.Index) - 3}[x.again] {
			t.Errorf("%s: it goes on with %d", what, len(l))
		}
	}
	for what, x := range map[string]struct { // its own entries
		e     api.Entry
		again bool
	}{
		"done":    {with(2, 30, 8), true},
		"old":     {with(2, 14, 8), true},
		"a hole":  {with(2, 14, 5), false},
		"neither": {with(2, 29, 8), false},
	} {
		n := base()
		n.Take(appendOf(1, x.e, 0, 0))
		n.Timer()
		l := wins(t, n, c, grantOf(1, 2))
		found := slices.ContainsFunc(l, func(e api.Entry) bool { return e.Index == x.e.Index && e.Req == x.e.Req })
		if found == x.again {
			t.Errorf("its own, %s: %t, %+v", what, found, l)
		}
	}
}

func TestWhatComesAgainVoidsNothing(t *testing.T) {
	c := api.Config{Nodes: 3, Behind: 8, Blocks: 8}
	n, _ := made(t, c, 0)
	for _, e := range row(1, 2, 1, 8) {
		n.Take(appendOf(1, e, 2, 0))
	}
	marked(t, "two", n, api.Marks{Low: 2})
	again := put(5, 3)
	again.Client, again.Req = put(2, 1).Client, put(2, 1).Req // of a later term, with a Start of 1
	n.Take(api.Message{From: 1, Term: 3})
	n.Timer()
	if l := wins(t, n, c, grantOf(1, 4, put(3, 1), again)); len(l) != 1 || l[0].Req != 3 {
		t.Error(l)
	}
}

// P27.2: what a leader tells

func TestAppends(t *testing.T) {
	n, d := made(t, three, 2)
	ack := func(index uint64) api.Message { return to(2, 1, 5, api.Message{Kind: api.MsgAck, Index: index}) }
	e := put(3, 5)
	tells(t, "one", n.Take(appendOf(1, e, 0, 0)), ack(3))
	if d.Loose() != 0 {
		t.Error("it isn't safe")
	}
	leads(t, "one", n, 1, true)
	holds(t, "one", n, 3)
	other := put(3, 5)
	other.Data = text("z", 1)
	tells(t, "one of that term is held", n.Take(appendOf(1, other, 0, 0)), ack(3))
	if got := n.Entries()[0]; !entry.Same(got, e) {
		t.Errorf("%+v", got)
	}
	tells(t, "the first place", n.Take(appendOf(1, put(1, 5), 0, 0)), ack(1))
	tells(t, "the last place", n.Take(appendOf(1, put(12, 5), 0, 0)), ack(12))
	tells(t, "above all places", n.Take(appendOf(1, put(13, 5), 0, 0)))
	tells(t, "far above all places", n.Take(appendOf(1, put(api.MaxIndex-api.MaxMarks, 5), 0, 0)))
	holds(t, "all", n, 1, 3, 12)
	newer := put(3, 6)
	newer.Data = text("z", 1)
	tells(t, "one of a lower term is held", n.Take(appendOf(0, newer, 0, 0)), to(2, 0, 6, api.Message{Kind: api.MsgAck, Index: 3}))
	if got := n.Entries()[1]; !entry.Same(got, newer) {
		t.Errorf("%+v", got)
	}
	leads(t, "another one", n, 0, true)
}

func TestAppendsAtTheSlotsLow(t *testing.T) {
	n, _ := made(t, three, 2)
	for _, e := range row(1, 4, 5, 4) {
		n.Take(appendOf(1, e, 0, 0))
	}
	n.Take(beatOf(1, 5, 1, 4, 0))
	if n.Low() != 4 {
		t.Fatal(n.Low())
	}
	for _, index := range []uint64{1, 3, 4} {
		e := put(index, 6)
		tells(t, "not above Low", n.Take(appendOf(1, e, 0, 0)), to(2, 1, 6, api.Message{Kind: api.MsgAck, Index: index}))
	}
	holds(t, "not above Low", n)
	tells(t, "above Low", n.Take(appendOf(1, put(5, 6), 0, 0)), to(2, 1, 6, api.Message{Kind: api.MsgAck, Index: 5}))
	holds(t, "above Low", n, 5)
	marked(t, "applied once", n, api.Marks{Low: 4})
}

func TestAppendsThatAreNone(t *testing.T) {
	for i, e := range worst(5) {
		n, _ := made(t, three, 2)
		tells(t, fmt.Sprint("the ", i), n.Take(appendOf(1, e, 0, 0)))
		holds(t, fmt.Sprint("the ", i), n)
		leads(t, "it leads all the same", n, 1, true)
	}
	for what, m := range map[string]api.Message{
		"of a lower term":  {Entries: []api.Entry{put(1, 4)}},
		"of a higher term": {Entries: []api.Entry{put(1, 6)}},
		"of none":          {Entries: []api.Entry{put(1, 0)}},
		"none":             {},
		"two":              {Entries: []api.Entry{put(1, 5), put(2, 5)}},
	} {
		m.Kind, m.From, m.Term, m.Low = api.MsgAppend, 1, 5, 1
		n, _ := made(t, three, 2)
		n.Timer()
		tells(t, what, n.Take(m))
		holds(t, what, n)
		leads(t, what, n, 1, true)
		if n.Role() != node.Follower {
			t.Error(what, state(n))
		}
		n.Take(appendOf(1, put(1, 5), 0, 0))
		marked(t, what+": what is committed it knows", n, api.Marks{Low: 1})
	}
}

func TestWhoHearsALeaderFollows(t *testing.T) {
	for _, m := range []api.Message{appendOf(1, put(1, 1), 0, 0), beatOf(1, 1, 1, 0, 0), {Kind: api.MsgSnap, From: 1, Term: 1}} {
		n, _ := made(t, three, 0)
		n.Timer()
		n.Take(m)
		if n.Role() != node.Follower || n.Term() != 1 {
			t.Error("a candidate", state(n))
		}
		leads(t, "a candidate", n, 1, true)
		n.Take(grantOf(2, 1))
		if n.Role() != node.Follower {
			t.Error("its votes are of no matter any more", state(n))
		}
	}
}

func TestBeats(t *testing.T) {
	n, _ := made(t, three, 2)
	pulse := func(round, low, bits uint64) api.Message {
		return to(2, 1, 5, api.Message{Kind: api.MsgPulse, Yes: true, Round: round, Low: low, Bits: bits})
	}
	tells(t, "of nobody", n.Take(beatOf(1, 5, 7, 0, 0)), pulse(7, 0, 0))
	leads(t, "of nobody", n, 1, true)
	l := row(1, 5, 5, 4)
	older := put(4, 3)
	n2, _ := made(t, three, 2)
	n2.Take(appendOf(1, older, 0, 0))
	tells(t, "what it holds of a lower term", n2.Take(beatOf(1, 5, 0, 0, 0)), pulse(0, 0, 0))
	for _, e := range l {
		n.Take(appendOf(1, e, 0, 0))
	}
	tells(t, "what it holds", n.Take(beatOf(1, 5, 8, 0, 0)), pulse(8, 0, 31))
	freshly(t, "nothing is committed", n)
	tells(t, "one with holes ahead", n.Take(beatOf(1, 5, 9, 0, 4)), pulse(9, 0, 31))
	freshly(t, "it looks behind at both", n, 3)
	marked(t, "with holes", n, api.Marks{Bits: 4})
	tells(t, "an older beat", n.Take(beatOf(1, 5, 6, 0, 0)), pulse(6, 0, 31))
	freshly(t, "nothing more", n)
	tells(t, "more than it holds", n.Take(beatOf(1, 5, 10, 9, 0)), pulse(10, 5, 0))
	freshly(t, "in order", n, 1, 2, 4, 5)
	if i, _ := n.Image(); i.Marks != (api.Marks{Low: 5}) || i.Blocks != text("\x00", 1)+text("b", 1)+text("c", 1)+text("d", 1)+text("e", 1)+text("f", 1)+text("\x00", 2) {
		t.Errorf("%+v", i)
	}
	tells(t, "what comes later is known to be committed", n.Take(appendOf(1, row(1, 6, 5, 4)[5], 0, 0)), to(2, 1, 5, api.Message{Kind: api.MsgAck, Index: 6}))
	freshly(t, "what comes later", n, 6)
}

func TestBeatsThatAreNotGood(t *testing.T) {
	for what, m := range map[string]api.Message{
		"the bit 0":               beatOf(1, 5, 0, 0, 1),
		"all of it":               beatOf(1, 5, 0, greatest, greatest),
		"above the greatest":      beatOf(1, 5, 0, api.MaxIndex-api.MaxMarks+1, 0),
		"all bits":                beatOf(1, 5, 0, 0, greatest),
		"the greatest":            beatOf(1, 5, 0, api.MaxIndex-api.MaxMarks, 0),
		"bits above the limit":    beatOf(1, 5, 0, api.MaxIndex-api.MaxMarks, greatest),
		"bits that wrap round":    beatOf(1, 5, 0, greatest-3, greatest),
		"bits behind one another": beatOf(1, 5, 0, 1, 6),
	} {
		n, _ := made(t, three, 2)
		n.Take(appendOf(1, put(1, 5), 0, 0))
		n.Take(m)
		freshly(t, what, n, 1)
	}
}

func TestWhatIsCommittedIsKnownInATermAlone(t *testing.T) {
	n, d := made(t, three, 2)
	n.Take(beatOf(1, 5, 1, 3, 0))
	tells(t, "a greater term", n.Take(beatOf(0, 6, 1, 0, 0)), to(2, 0, 6, api.Message{Kind: api.MsgPulse, Yes: true, Round: 1}))
	n.Take(appendOf(0, put(1, 6), 0, 0))
	freshly(t, "another term", n)
	n.Take(beatOf(0, 6, 2, 1, 0))
	freshly(t, "told", n, 1)
	n.Take(beatOf(0, 6, 2, 2, 0))
	d.Crash()
	n = opened(t, d, three, 2)
	n.Take(appendOf(0, put(2, 6), 0, 0))
	freshly(t, "opened again", n)
	n.Take(appendOf(0, put(3, 5), 0, 0))
	n.Take(beatOf(0, 6, 3, 9, 0))
	freshly(t, "of its term alone", n, 1, 2)
}

func TestOfItsTermAlone(t *testing.T) {
	n, _ := made(t, three, 2)
	for _, e := range row(1, 3, 5, 4) {
		n.Take(appendOf(1, e, 0, 0))
	}
	n.Take(beatOf(0, 6, 1, 3, 0))
	freshly(t, "of a lower term", n)
	marked(t, "of a lower term", n, api.Marks{})
	e := put(1, 6)
	e.Data = text("n", 1)
	n.Take(appendOf(0, e, 3, 0))
	freshly(t, "of that term", n, 1)
	if i, _ := n.Image(); i.Blocks[8:16] != text("n", 1) {
		t.Errorf("%+v", i)
	}
}

func TestSnaps(t *testing.T) {
	n, d := made(t, three, 2)
	for _, e := range row(1, 6, 5, 4) {
		n.Take(appendOf(1, e, 0, 0))
	}
	n.Take(beatOf(1, 5, 1, 2, 0))
	pulse := func(low, bits uint64) api.Message {
		return to(2, 1, 5, api.Message{Kind: api.MsgPulse, Yes: true, Round: 3, Low: low, Bits: bits})
	}
	snap := func(i image.Image) api.Message {
		m := snapOf(t, 1, 5, i)
		m.Round, m.Low, m.Bits = 3, 99, 99 // neither tells of what is committed
		return m
	}
	full := image.Image{Marks: api.Marks{Low: 2}, Blocks: text("s", 8)}
	tells(t, "not above its store's", n.Take(snap(full)), pulse(2, 15))
	none := snap(full)
	none.Data = none.Data[1:]
	tells(t, "no image", n.Take(none), pulse(2, 15))
	full.Marks.Low, full.Blocks = 3, text("s", 7)
	tells(t, "of another chunk", n.Take(snap(full)), pulse(2, 15))
	if n.Low() != 0 {
		t.Error(n.Low())
	}
	full.Marks, full.Blocks = api.Marks{Low: 4, Bits: 4}, text("s", 8)
	full.Done, _ = done.Add(done.Table{}, 5, 77)
	tells(t, "above it", n.Take(snap(full)), pulse(4, 7))
	freshly(t, "nothing was applied by it", n)
	if i, e := n.Image(); i != full || e != api.OK || n.Low() != 4 {
		t.Error(i, int(e), n.Low())
	}
	holds(t, "trimmed", n, 5, 6)
	d.Crash()
	n = opened(t, d, three, 2)
	if i, e := n.Image(); i != full || e != api.OK {
		t.Error(i, int(e))
	}
}

func TestASnapLetsOthersBeApplied(t *testing.T) {
	c := api.Config{Nodes: 3, Behind: 1, Blocks: 8}
	n, _ := made(t, c, 2)
	n.Take(appendOf(1, put(3, 5), 3, 0))
	freshly(t, "it waits for what isn't there", n)
	n.Take(snapOf(t, 1, 5, image.Image{Marks: api.Marks{Low: 2}, Blocks: text("s", 8)}))
	freshly(t, "it waited", n, 3)
	marked(t, "it waited", n, api.Marks{Low: 3})
}

// P27.2: what a leader hears

func TestAcks(t *testing.T) {
	c := api.Config{Nodes: 5, Behind: 4, Blocks: 8}
	n, _ := leader(t, c, row(1, 4, 1, 4)...)
	quiet := func(what string, m api.Message) {
		t.Helper()
		stays(t, what, n, func() []api.Message { return n.Take(m) })
		freshly(t, what, n)
	}
	quiet("the first one", ackOf(1, 1, 2))
	quiet("twice", ackOf(1, 1, 2))
	quiet("of itself", ackOf(0, 1, 2))
	quiet("of nobody", ackOf(5, 1, 2))
	quiet("of an earlier term", ackOf(3, 0, 2))
	quiet("of no index", ackOf(3, 1, 0))
	quiet("of an index that there isn't", ackOf(3, 1, 99))
	quiet("of one far above", ackOf(3, 1, greatest))
	n.Take(ackOf(3, 1, 2))
	freshly(t, "a majority", n, 2)
	marked(t, "a majority", n, api.Marks{Bits: 2})
	quiet("one more", ackOf(4, 1, 2))
	n.Take(ackOf(2, 1, 1))
	n.Take(ackOf(4, 1, 1))
	freshly(t, "the hole", n, 1)
	marked(t, "the hole", n, api.Marks{Low: 2})
	for what, role := range map[string]func(*node.Node){"a follower": func(n *node.Node) {}, "a candidate": func(n *node.Node) { n.Timer() }} {
		n, _ := made(t, three, 0)
		role(n)
		for _, m := range []api.Message{ackOf(1, n.Term(), 1), pulseOf(1, n.Term(), 1, 1, 1)} {
			stays(t, what, n, func() []api.Message { return n.Take(m) })
		}
	}
}

func TestPulses(t *testing.T) {
	n, _ := leader(t, three, row(1, 4, 1, 4)...)
	no := pulseOf(1, 1, 1, 4, 0)
	no.Yes = false
	stays(t, "without Yes", n, func() []api.Message { return n.Take(no) })
	carry := func(to int, m api.Marks, l ...api.Entry) []api.Message {
		var out []api.Message
		for _, e := range l {
			out = append(out, api.Message{Kind: api.MsgAppend, From: 0, To: to, Term: 1, Low: m.Low, Bits: m.Bits, Entries: []api.Entry{e}})
		}
		return out
	}
	l := n.Entries()
	tells(t, "it has nothing", n.Take(pulseOf(1, 1, 0, 0, 0)), carry(1, api.Marks{}, l...)...)
	tells(t, "it has one", n.Take(pulseOf(1, 1, 0, 0, 2)), carry(1, api.Marks{Bits: 2}, l[0], l[2], l[3])...)
	freshly(t, "it has one", n, 2)
	tells(t, "it lacks one", n.Take(pulseOf(2, 1, 0, 0, 11)), carry(2, api.Marks{Low: 2, Bits: 2}, l[2])...)
	freshly(t, "it lacks one", n, 1, 4)
	tells(t, "it lacks nothing", n.Take(pulseOf(2, 1, 1, 0, 15)))
	freshly(t, "it lacks nothing", n, 3)
	if n.Low() != 4 {
		t.Error("saved:", n.Low())
	}
	tells(t, "all of it", n.Take(pulseOf(1, 1, 1, greatest, greatest)))
}

func TestWhatOneToldOfIsNotToldAgain(t *testing.T) {
	n, _ := leader(t, api.Config{Nodes: 3, Behind: 8, Blocks: 8}, row(1, 2, 1, 4)...)
	n.Take(ackOf(1, 1, 1))
	l := n.Take(pulseOf(1, 1, 1, 0, 0)) // it was on its way when the ack was
	if len(l) != 1 || l[0].Entries[0].Index != 2 {
		t.Error(l)
	}
	n.Take(pulseOf(1, 1, 1, 2, 0)) // applied, and not saved
	l = n.Take(pulseOf(1, 1, 1, 0, 0))
	if len(l) != 1 || l[0].Entries[0].Index != 2 {
		t.Error("what one had applied, and lost:", l)
	}
}

func TestWhatOneHoldsIsRememberedBehindASave(t *testing.T) {
	n, _ := leader(t, three, row(1, 6, 1, 4)...)
	n.Take(ackOf(2, 1, 6)) // no other one can be told so: it would be committed
	n.Take(ackOf(1, 1, 1))
	is(t, "a save", n.Save(), api.OK)
	l := n.Take(pulseOf(2, 1, 0, 1, 0))
	if len(l) != 4 || l[0].Entries[0].Index != 2 || l[3].Entries[0].Index != 5 {
		t.Errorf("%+v", l)
	}
	l = n.Take(pulseOf(1, 1, 0, 1, 0))
	if len(l) != 5 || l[0].Entries[0].Index != 2 || l[4].Entries[0].Index != 6 {
		t.Errorf("%+v", l)
	}
	majority(three, n, 3)
	freshly(t, "it must wait for none ahead", n, 3)
	is(t, "a save", n.Save(), api.OK)
	majority(three, n, 2)
	marked(t, "what was committed stays so", n, api.Marks{Low: 3, Bits: 4})
}

func TestATermNearTheGreatestIndex(t *testing.T) {
	c := api.Config{Nodes: 3, Behind: 1, Blocks: 8}
	n, _ := made(t, c, 0)
	last := uint64(api.MaxIndex - 2*api.MaxMarks - api.MaxLog) // behind it no window begins
	n.Take(snapOf(t, 1, 1, image.Image{Marks: api.Marks{Low: last - 1}, Blocks: text("s", 8)}))
	n.Timer()
	n.Take(grantOf(1, 2))
	for req := uint64(1); req <= 100; req++ {
		n.Take(writeOf(1, req, 0, text("x", 1)))
		tells(t, "answered", n.Take(ackOf(1, 2, last-1+req)), answerOf(0, 2, 1, req, api.OK, 1, ""))
	}
	if n.Low() != last+99 {
		t.Error(n.Low())
	}
}

func TestPulsesOfThoseWhoLackMany(t *testing.T) {
	for _, lacks := range []uint64{1, 31, 32, 33, 40} {
		c := api.Config{Nodes: 3, Behind: 64, Blocks: 8}
		n, _ := leader(t, c, row(1, 64, 1, 64)...)
		has := uint64(greatest) << lacks
		want := n.Entries()[:min(lacks, 32)]
		got := n.Take(pulseOf(2, 1, 0, 0, has))
		if len(got) != len(want) {
			t.Fatalf("%d, not %d", len(got), len(want))
		}
		for i, m := range got {
			if m.Kind != api.MsgAppend || m.To != 2 || len(m.Entries) != 1 || !entry.Same(m.Entries[0], want[i]) {
				t.Errorf("%+v", m)
			}
		}
	}
}

func TestPulsesOfThoseWhoAreBehind(t *testing.T) {
	n, _ := leader(t, three, row(1, 6, 1, 4)...)
	for index := uint64(1); index <= 4; index++ {
		majority(three, n, index)
	}
	if n.Low() != 4 {
		t.Fatal(n.Low())
	}
	i, _ := n.Image()
	data, _ := image.Make(i)
	snap := to(0, 2, 1, api.Message{Kind: api.MsgSnap, Data: data})
	for low := range uint64(4) {
		tells(t, "below its slots' Low", n.Take(pulseOf(2, 1, 0, low, 0)), snap)
	}
	l := n.Take(pulseOf(2, 1, 0, 4, 0))
	if len(l) != 2 || l[0].Kind != api.MsgAppend || l[1].Kind != api.MsgAppend {
		t.Errorf("at it: %+v", l)
	}
	tells(t, "above it", n.Take(pulseOf(2, 1, 0, 5, 1)))
}

func TestEntriesOfLowerTermsAreNotBrought(t *testing.T) {
	c := api.Config{Nodes: 3, Behind: 8, Blocks: 8}
	n, _ := made(t, c, 0)
	stale := put(9, 1)
	stale.Client, stale.Req = 1, 1
	first := put(1, 1)
	first.Client, first.Req = 1, 1
	n.Take(appendOf(1, stale, 0, 0))
	n.Take(appendOf(1, first, 1, 0))
	freshly(t, "applied", n, 1)
	n.Timer()
	if l := wins(t, n, c, grantOf(1, 2)); len(l) != 0 {
		t.Fatal("it comes again:", l)
	}
	holds(t, "won", n, 9)
	tells(t, "it is of a lower term", n.Take(pulseOf(2, 2, 1, 1, 0)))
	tells(t, "nor is it committed", n.Take(pulseOf(1, 2, 1, 9, 0)))
	freshly(t, "nor is it committed", n)
	n.Take(writeOf(3, 1, 0, text("w", 1)))
	if l := n.Entries(); len(l) != 2 || l[0].Index != 2 || len(l[0].Behind) != 0 {
		t.Errorf("the next index is the one behind those of its term: %+v", l)
	}
}

func TestWhenItSaves(t *testing.T) {
	for behind := 1; behind <= 6; behind++ {
		c := api.Config{Nodes: 3, Behind: behind, Blocks: 8}
		f, d := made(t, c, 1)
		for index := uint64(1); index <= 20; index++ {
			e := put(index, 1)
			f.Take(appendOf(0, e, index, 0))
			freshly(t, "a follower", f, index)
			if want := index - index%uint64(behind); f.Low() != want {
				t.Fatalf("%d of %d: %d, not %d", index, behind, f.Low(), want)
			}
		}
		d.Crash()
		if marked := opened(t, d, c, 1).Marks(); marked.Low != uint64(20-20%behind) {
			t.Error(marked)
		}
		n, _ := leader(t, c)
		for req := uint64(1); req <= 20; req++ {
			n.Take(writeOf(1, req, 0, text("x", 1)))
			n.Take(ackOf(2, 1, req))
			freshly(t, "a leader", n, req)
			if want := req - req%uint64(behind); n.Low() != want {
				t.Fatalf("%d of %d: %d, not %d", req, behind, n.Low(), want)
			}
		}
	}
}

func TestWhenItSavesWithHoles(t *testing.T) {
	n, d := made(t, three, 1)
	for _, e := range row(1, 6, 1, 4) {
		n.Take(appendOf(0, e, 0, 0))
	}
	n.Take(beatOf(0, 1, 1, 1, 6)) // 1, 3 and 4
	if n.Low() != 0 {
		t.Error("one less:", n.Low())
	}
	n.Take(beatOf(0, 1, 1, 1, 14))
	marked(t, "five", n, api.Marks{Low: 1, Bits: 14})
	if n.Low() != 1 {
		t.Error("as many, of which not all are in a row:", n.Low())
	}
	d.Crash()
	marked(t, "saved", opened(t, d, three, 1), api.Marks{Low: 1, Bits: 14})
}

func TestALongTerm(t *testing.T) {
	for _, behind := range []int{1, 3, 64} {
		c := api.Config{Nodes: 3, Behind: behind, Blocks: 8}
		n, _ := leader(t, c)
		for req := uint64(1); req <= 3*api.MaxLog; req++ {
			l := n.Take(writeOf(1, req, uint32(req%8), text("x", 1)))
			if len(l) != 2 {
				t.Fatal(req, l)
			}
			tells(t, "answered", n.Take(ackOf(1, 1, req)), answerOf(0, 1, 1, req, api.OK, 1, ""))
		}
		marked(t, "all", n, api.Marks{Low: 3 * api.MaxLog})
	}
}
