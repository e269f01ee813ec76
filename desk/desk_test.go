package desk_test

import (
	"math"
	"math/rand"
	"slices"
	"testing"

	"keelson/api"
	"keelson/desk"
)

const (
	greatest = math.MaxUint64
	room     = api.MaxQueue
)

// nowhere is what is no node of so many.
func nowhere(nodes int) []int {
	return []int{math.MinInt, math.MinInt + 1, -1 << 32, -64, -nodes, -2, -1, nodes, nodes + 1, api.MaxNodes, api.MaxNodes + 1, 63, 64, 64 + nodes - 1, 1 << 32, 1<<32 + 1, math.MaxInt - 1, math.MaxInt}
}

func writeOf(client, req, index uint64) desk.Wait {
	return desk.Wait{Client: client, Req: req, Index: index}
}

func readOf(client, req uint64, s api.Span, round uint64) desk.Wait {
	return desk.Wait{Client: client, Req: req, Span: s, Round: round}
}

func spanOf(from, count uint32) api.Span {
	return api.Span{From: from, Count: count}
}

// model is a desk as the tests tell it: a line for each that ever waited, and one for each time that a node was heard.
type model struct {
	nodes, self int
	round       uint64
	said        []said
	lines       []*line
}

type said struct {
	node  int
	round uint64
}

type line struct {
	w    desk.Wait
	read bool
	gone bool
}

func (m *model) waits() []desk.Wait {
	var l []desk.Wait
	for _, x := range m.lines {
		if !x.gone {
			l = append(l, x.w)
		}
	}
	return l
}

// find tells the line of one that waits.
func (m *model) find(read bool, client, req uint64) *line {
	for _, x := range m.lines {
		if !x.gone && x.read == read && x.w.Client == client && x.w.Req == req {
			return x
		}
	}
	return nil
}

func (m *model) write(client, req, index uint64) api.Errno {
	if index == 0 {
		return api.ErrArg
	}
	if m.find(false, client, req) != nil {
		return api.OK
	}
	if len(m.waits()) == room {
		return api.ErrBusy
	}
	m.lines = append(m.lines, &line{w: writeOf(client, req, index)})
	return api.OK
}

func (m *model) read(client, req uint64, s api.Span) (uint64, api.Errno) {
	if x := m.find(true, client, req); x != nil {
		x.gone = true
	} else if len(m.waits()) == room {
		return 0, api.ErrBusy
	}
	m.round++
	m.lines = append(m.lines, &line{w: readOf(client, req, s, m.round), read: true})
	return m.round, api.OK
}

// agreed tells whether more nodes were heard in a round, or in a later one, than not.
func (m *model) agreed(round uint64) bool {
	n := 0
	for node := range m.nodes {
		late := func(s said) bool { return s.node == node && s.round >= round }
		if node == m.self || slices.ContainsFunc(m.said, late) {
			n++
		} else {
			n--
		}
	}
	return n > 0
}

func (m *model) sure() uint64 {
	for round := m.round; round > 0; round-- {
		if m.agreed(round) {
			return round
		}
	}
	return 0
}

// leave lets lines go, and tells what they were.
func (m *model) leave(goes func(x *line) bool) []desk.Wait {
	var l []desk.Wait
	for _, x := range m.lines {
		if !x.gone && goes(x) {
			x.gone = true
			l = append(l, x.w)
		}
	}
	return l
}

func (m *model) heard(node int, round uint64) []desk.Wait {
	if node >= 0 && node < m.nodes && node != m.self && round <= m.round {
		m.said = append(m.said, said{node, round})
	}
	sure := m.sure()
	return m.leave(func(x *line) bool { return x.read && x.w.Round <= sure })
}

// marked tells whether n is marked, as the tests tell it: bit by bit.
func marked(marks api.Marks, n uint64) bool {
	if n <= marks.Low {
		return true
	}
	for k := range uint64(64) {
		if marks.Bits>>k&1 == 1 && n-marks.Low == k+1 {
			return true
		}
	}
	return false
}

func (m *model) applied(marks api.Marks) []desk.Wait {
	return m.leave(func(x *line) bool { return !x.read && marked(marks, x.w.Index) })
}

// both is a desk, and the model that must tell the same.
type both struct {
	t *testing.T
	d *desk.Desk
	m *model
}

func start(t *testing.T, nodes, self int) *both {
	t.Helper()
	d := desk.New(nodes, self)
	if d == nil {
		t.Fatalf("no desk of %d nodes, %d being self", nodes, self)
	}
	return &both{t, d, &model{nodes: nodes, self: self}}
}

// each starts a desk of each number of nodes, each node being self.
func each(t *testing.T, do func(b *both)) {
	t.Helper()
	for nodes := 1; nodes <= api.MaxNodes; nodes++ {
		for self := range nodes {
			do(start(t, nodes, self))
		}
	}
}

// agrees tells whether all that asks says the same as the model.
func (b *both) agrees(what string) {
	b.t.Helper()
	want := b.m.waits()
	if got := b.d.All(); !slices.Equal(got, want) {
		b.t.Errorf("%s: All: %v, not %v", what, got, want)
	}
	if got := b.d.Len(); got != len(want) {
		b.t.Errorf("%s: Len: %d, not %d", what, got, len(want))
	}
	if got := b.d.Round(); got != b.m.round {
		b.t.Errorf("%s: Round: %d, not %d", what, got, b.m.round)
	}
	if got := b.d.Sure(); got != b.m.sure() {
		b.t.Errorf("%s: Sure: %d, not %d", what, got, b.m.sure())
	}
}

func (b *both) write(client, req, index uint64) api.Errno {
	b.t.Helper()
	got, want := b.d.Write(client, req, index), b.m.write(client, req, index)
	if got != want {
		b.t.Errorf("Write(%d, %d, %d): %d, not %d", client, req, index, int(got), int(want))
	}
	return got
}

func (b *both) read(client, req uint64, s api.Span) api.Errno {
	b.t.Helper()
	got, e := b.d.Read(client, req, s)
	if round, want := b.m.read(client, req, s); got != round || e != want {
		b.t.Errorf("Read(%d, %d, %v): %d and %d, not %d and %d", client, req, s, got, int(e), round, int(want))
	}
	return e
}

func (b *both) begin() {
	b.t.Helper()
	b.m.round++
	if got := b.d.Begin(); got != b.m.round {
		b.t.Errorf("Begin: %d, not %d", got, b.m.round)
	}
}

func (b *both) heard(node int, round uint64) []desk.Wait {
	b.t.Helper()
	got, want := b.d.Heard(node, round), b.m.heard(node, round)
	if !slices.Equal(got, want) {
		b.t.Errorf("Heard(%d, %d) of %d nodes, %d being self: %v, not %v", node, round, b.m.nodes, b.m.self, got, want)
	}
	return got
}

func (b *both) applied(m api.Marks) []desk.Wait {
	b.t.Helper()
	got, want := b.d.Applied(m), b.m.applied(m)
	if !slices.Equal(got, want) {
		b.t.Errorf("Applied(%+v): %v, not %v", m, got, want)
	}
	return got
}

// fill lets writes and reads of the client 9 wait, by turns, until so many wait.
func (b *both) fill(most int) {
	b.t.Helper()
	for k := b.d.Len(); k < most; k++ {
		if n := uint64(k); k%2 == 0 {
			b.write(9, n, 100+n)
		} else {
			b.read(9, n, spanOf(uint32(n), 1))
		}
	}
}

// others tells the nodes that are not self.
func (b *both) others() []int {
	var l []int
	for node := range b.m.nodes {
		if node != b.m.self {
			l = append(l, node)
		}
	}
	return l
}

// P25.1: New.

func TestNew(t *testing.T) {
	for nodes, good := range map[int]bool{-1: false, 0: false, 1: true, 2: true, 3: true, 4: true, 5: true, 6: true, api.MaxNodes: true, api.MaxNodes + 1: false, 64: false, 1<<8 + 3: false, 1<<32 + 3: false, math.MinInt: false, math.MaxInt: false} {
		for self := -1; self <= api.MaxNodes+1; self++ {
			want := good && self >= 0 && self < nodes
			if got := desk.New(nodes, self) != nil; got != want {
				t.Errorf("New(%d, %d): %v", nodes, self, got)
			}
		}
		for _, self := range nowhere(max(0, min(nodes, 8))) {
			want := good && self >= 0 && self < nodes
			if got := desk.New(nodes, self) != nil; got != want {
				t.Errorf("New(%d, %d): %v", nodes, self, got)
			}
		}
	}
}

func TestNewHasNobody(t *testing.T) {
	each(t, func(b *both) {
		b.agrees("a new one")
		if b.d.Len() != 0 || len(b.d.All()) != 0 || b.d.Round() != 0 || b.d.Sure() != 0 {
			t.Errorf("%d, %v, %d, %d", b.d.Len(), b.d.All(), b.d.Round(), b.d.Sure())
		}
		if l := b.d.Applied(api.Marks{Low: greatest}); len(l) != 0 {
			t.Error("applied", l)
		}
		for node := -1; node <= b.m.nodes; node++ {
			if l := b.d.Heard(node, 0); len(l) != 0 {
				t.Error("heard", l)
			}
		}
		b.agrees("a new one that was told of nothing")
	})
}

// P25.1: Write.

func TestWrite(t *testing.T) {
	b := start(t, 3, 0)
	for _, c := range []struct {
		what               string
		client, req, index uint64
		want               api.Errno
		len                int
	}{
		{"the index 0", 1, 1, 0, api.ErrArg, 0},
		{"one", 1, 1, 7, api.OK, 1},
		{"the same one", 1, 1, 7, api.OK, 1},
		{"the same one at another index", 1, 1, 8, api.OK, 1},
		{"the same one at the index 0", 1, 1, 0, api.ErrArg, 1},
		{"another request", 1, 2, 7, api.OK, 2},
		{"another client", 2, 1, 7, api.OK, 3},
		{"noughts", 0, 0, 1, api.OK, 4},
		{"the greatest", greatest, greatest, greatest, api.OK, 5},
		{"the greatest again", greatest, greatest, 1, api.OK, 5},
	} {
		if got := b.d.Write(c.client, c.req, c.index); got != c.want || b.d.Len() != c.len {
			t.Errorf("%s: %d, and %d wait", c.what, int(got), b.d.Len())
		}
	}
	want := []desk.Wait{writeOf(1, 1, 7), writeOf(1, 2, 7), writeOf(2, 1, 7), writeOf(0, 0, 1), writeOf(greatest, greatest, greatest)}
	if got := b.d.All(); !slices.Equal(got, want) {
		t.Errorf("%v", got)
	}
	if b.d.Round() != 0 {
		t.Error("a write begins a round")
	}
}

// Of a client and a request of which only a read waits a write waits beside it.
func TestWriteBesideARead(t *testing.T) {
	b := start(t, 3, 1)
	b.read(1, 5, spanOf(2, 1))
	b.write(1, 5, 9)
	b.agrees("a write behind a read")
	if got, want := b.d.All(), []desk.Wait{readOf(1, 5, spanOf(2, 1), 1), writeOf(1, 5, 9)}; !slices.Equal(got, want) {
		t.Errorf("%v", got)
	}
	b.write(1, 5, 10)
	b.agrees("the write once more")
}

func TestWriteThatWasTold(t *testing.T) {
	b := start(t, 3, 1)
	b.write(1, 5, 9)
	b.applied(api.Marks{Low: 9})
	b.agrees("a write that was told")
	b.write(1, 5, 11)
	if got := b.d.All(); !slices.Equal(got, []desk.Wait{writeOf(1, 5, 11)}) {
		t.Errorf("%v", got)
	}
	b.applied(api.Marks{Low: 10})
	b.agrees("the same one anew")
}

func TestWriteIsBusy(t *testing.T) {
	b := start(t, 3, 2)
	b.fill(room - 1)
	if e := b.write(1, 1, 50); e != api.OK || b.d.Len() != 64 {
		t.Errorf("the last one: %d, and %d wait", int(e), b.d.Len())
	}
	for _, c := range []struct {
		what               string
		client, req, index uint64
		want               api.Errno
	}{
		{"one more", 1, 2, 51, api.ErrBusy},
		{"one more at an index that waits", 1, 2, 50, api.ErrBusy},
		{"one more at the index 0", 1, 2, 0, api.ErrArg},
		{"the same one", 1, 1, 50, api.OK},
		{"the first one", 9, 0, 3, api.OK},
		{"of which only a read waits", 9, 1, 3, api.ErrBusy},
	} {
		if got := b.write(c.client, c.req, c.index); got != c.want {
			t.Errorf("%s: %d", c.what, int(got))
		}
		b.agrees(c.what)
	}
	b.applied(api.Marks{Low: 50})
	if e := b.write(1, 2, 51); e != api.OK {
		t.Errorf("behind one that was told: %d", int(e))
	}
	if e := b.write(1, 3, 52); e != api.ErrBusy {
		t.Errorf("behind it: %d", int(e))
	}
	b.agrees("full again")
}

// P25.1: Read.

func TestRead(t *testing.T) {
	b := start(t, 3, 0)
	for k, c := range []struct {
		what        string
		client, req uint64
		s           api.Span
		begins      int // ahead of it
		round       uint64
	}{
		{"one", 1, 1, spanOf(0, 1), 0, 1},
		{"another one", 1, 2, spanOf(0, 1), 0, 2},
		{"behind a round", 2, 1, spanOf(3, 8), 1, 4},
		{"behind rounds", 0, 0, spanOf(0, 0), 3, 8},
		{"of the greatest", greatest, greatest, spanOf(math.MaxUint32, math.MaxUint32), 0, 9},
	} {
		for range c.begins {
			b.begin()
		}
		if round, e := b.d.Read(c.client, c.req, c.s); round != c.round || e != api.OK {
			t.Errorf("%s: %d and %d", c.what, round, int(e))
		}
		b.m.read(c.client, c.req, c.s)
		if b.d.Len() != k+1 || b.d.Round() != c.round {
			t.Errorf("%s: %d wait, in the round %d", c.what, b.d.Len(), b.d.Round())
		}
		b.agrees(c.what)
	}
	want := []desk.Wait{readOf(1, 1, spanOf(0, 1), 1), readOf(1, 2, spanOf(0, 1), 2), readOf(2, 1, spanOf(3, 8), 4), readOf(0, 0, api.Span{}, 8), readOf(greatest, greatest, spanOf(math.MaxUint32, math.MaxUint32), 9)}
	if got := b.d.All(); !slices.Equal(got, want) {
		t.Errorf("%v", got)
	}
	if got := b.d.Begin(); got != 10 {
		t.Errorf("the round behind them: %d", got)
	}
}

// A read that comes again waits behind all others, in a round of its own, for what it asks now.
func TestReadAgain(t *testing.T) {
	b := start(t, 3, 0)
	b.read(1, 1, spanOf(0, 1))
	b.write(1, 1, 4)
	b.read(2, 1, spanOf(1, 1))
	b.read(1, 1, spanOf(5, 2))
	b.agrees("one that came again")
	want := []desk.Wait{writeOf(1, 1, 4), readOf(2, 1, spanOf(1, 1), 2), readOf(1, 1, spanOf(5, 2), 3)}
	if got := b.d.All(); !slices.Equal(got, want) {
		t.Errorf("%v", got)
	}
	if l := b.heard(1, 2); !slices.Equal(l, want[1:2]) {
		t.Errorf("told of the rounds up to 2: %v", l)
	}
	if l := b.heard(1, 3); !slices.Equal(l, want[2:]) {
		t.Errorf("told of the round 3: %v", l)
	}
	b.read(1, 1, spanOf(6, 1))
	b.agrees("one that was told, and came again")
}

// Of a client and a request of which only a write waits a read waits beside it.
func TestReadBesideAWrite(t *testing.T) {
	b := start(t, 3, 0)
	b.write(1, 5, 9)
	b.read(1, 5, spanOf(2, 1))
	b.agrees("a read behind a write")
	if got, want := b.d.All(), []desk.Wait{writeOf(1, 5, 9), readOf(1, 5, spanOf(2, 1), 1)}; !slices.Equal(got, want) {
		t.Errorf("%v", got)
	}
	b.read(1, 4, spanOf(2, 1))
	b.read(2, 5, spanOf(2, 1))
	b.agrees("others beside it")
	if b.d.Len() != 4 {
		t.Errorf("%d wait", b.d.Len())
	}
}

func TestReadIsBusy(t *testing.T) {
	b := start(t, 3, 0)
	b.fill(room - 1)
	if e := b.read(1, 1, spanOf(0, 1)); e != api.OK || b.d.Len() != 64 {
		t.Errorf("the last one: %d, and %d wait", int(e), b.d.Len())
	}
	round := b.d.Round()
	for _, c := range []struct{ client, req uint64 }{{1, 2}, {2, 1}, {9, 0}, {9, 2}, {greatest, greatest}} { // of some a write waits
		if got, e := b.d.Read(c.client, c.req, spanOf(1, 1)); got != 0 || e != api.ErrBusy {
			t.Errorf("one more: %d and %d", got, int(e))
		}
		if b.d.Round() != round {
			t.Errorf("one more began the round %d", b.d.Round())
		}
		b.agrees("one more")
	}
	for _, c := range []struct{ client, req uint64 }{{1, 1}, {9, 1}, {9, 61}, {9, 1}} {
		round++
		if got, e := b.d.Read(c.client, c.req, spanOf(7, 1)); got != round || e != api.OK {
			t.Errorf("the same one: %d and %d", got, int(e))
		}
		b.m.read(c.client, c.req, spanOf(7, 1))
		b.agrees("the same one")
	}
	b.heard(1, b.d.Round())
	if e := b.read(1, 2, spanOf(0, 1)); e != api.OK {
		t.Errorf("behind those that were told: %d", int(e))
	}
	b.agrees("with room again")
}

// One that comes again with room for just one more leaves as many waiting.
func TestAgainWithRoomForOne(t *testing.T) {
	b := start(t, 5, 3)
	b.fill(room - 1)
	b.write(9, 0, 77)
	b.read(9, 1, spanOf(3, 3))
	if b.d.Len() != room-1 {
		t.Errorf("%d wait", b.d.Len())
	}
	b.agrees("both again")
}

func TestLenAndAll(t *testing.T) {
	each(t, func(b *both) {
		for k := range room + 3 {
			switch n := uint64(k); k % 4 {
			case 0, 3:
				b.write(n%5, n, 1+n)
			default:
				b.read(n%5, n, spanOf(uint32(n), 1))
			}
			b.agrees("one more")
		}
		if b.d.Len() != room || len(b.d.All()) != room {
			t.Errorf("%d wait", b.d.Len())
		}
		b.heard(-1, 0)
		b.applied(api.Marks{Low: 30})
		b.agrees("some fewer")
		b.applied(api.Marks{Low: greatest})
		for _, node := range b.others() {
			b.heard(node, b.d.Round())
		}
		b.agrees("nobody")
		if b.d.Len() != 0 || len(b.d.All()) != 0 {
			t.Errorf("%d wait still", b.d.Len())
		}
	})
}

// over writes over a list, and over its spare room.
func over(l []desk.Wait) {
	l = l[:cap(l)]
	for k := range l {
		l[k] = desk.Wait{Client: 77, Req: 77, Round: 1}
	}
}

func TestWhatIsToldIsItsOwn(t *testing.T) {
	b := start(t, 3, 0)
	for k := range uint64(5) {
		b.write(1, k, 10+k)
		b.read(2, k, spanOf(uint32(k), 1))
	}
	over(b.d.All())
	b.agrees("All")
	one, two := b.d.All(), b.d.All()
	over(one)
	if !slices.Equal(two, b.m.waits()) {
		t.Error("two answers share a list")
	}
	over(b.heard(1, 2))
	b.agrees("Heard")
	over(b.applied(api.Marks{Low: 11}))
	b.agrees("Applied")
	over(b.heard(-1, 0))
	over(b.applied(api.Marks{}))
	b.agrees("nobody told")
	l := b.d.All()
	b.write(3, 1, 99)
	b.read(2, 4, spanOf(9, 1))
	b.heard(2, 4)
	if len(l) != 6 || l[0] != writeOf(1, 2, 12) || l[5] != readOf(2, 4, spanOf(4, 1), 5) {
		t.Errorf("what was told came to be %v", l)
	}
}

// P25.2: rounds.

func TestBegin(t *testing.T) {
	each(t, func(b *both) {
		for k := range uint64(300) {
			if got := b.d.Round(); got != k {
				t.Errorf("Round: %d, not %d", got, k)
			}
			if got := b.d.Begin(); got != k+1 {
				t.Errorf("Begin: %d, not %d", got, k+1)
			}
		}
		b.m.round = 300
		b.agrees("begun often")
	})
}

// P25.2: Heard.

func TestExample(t *testing.T) {
	d := desk.New(3, 0)
	if round, e := d.Read(1, 1, spanOf(2, 1)); round != 1 || e != api.OK {
		t.Errorf("%d and %d", round, int(e))
	}
	if l := d.Heard(2, 1); !slices.Equal(l, []desk.Wait{readOf(1, 1, spanOf(2, 1), 1)}) {
		t.Errorf("%v", l)
	}
	if l := d.Heard(1, 1); len(l) != 0 || d.Len() != 0 {
		t.Errorf("told twice: %v", l)
	}
}

func TestHeard(t *testing.T) {
	for _, c := range []struct {
		what  string
		heard []said
		sure  uint64
	}{
		{"nobody", nil, 0},
		{"no node", []said{{-1, 4}, {3, 4}, {64, 4}, {math.MinInt, 4}, {math.MaxInt, 4}}, 0},
		{"self", []said{{0, 4}, {0, 1}, {0, 0}}, 0},
		{"above Round", []said{{1, 6}, {2, 6}, {1, 7}, {2, greatest}}, 0},
		{"at Round", []said{{1, 5}}, 5},
		{"at Round, the other one", []said{{2, 5}}, 5},
		{"below Round", []said{{1, 4}}, 4},
		{"the round 0", []said{{1, 0}, {2, 0}}, 0},
		{"one twice", []said{{1, 2}, {1, 2}}, 2},
		{"one in a later round", []said{{1, 2}, {1, 4}}, 4},
		{"one in a lower round", []said{{1, 4}, {1, 2}}, 4},
		{"one in the round 0 last", []said{{1, 4}, {1, 0}}, 4},
		{"one above Round last", []said{{1, 4}, {1, 6}}, 4},
		{"both", []said{{1, 2}, {2, 3}}, 3},
		{"both, the other way", []said{{1, 3}, {2, 2}}, 3},
	} {
		b := start(t, 3, 0)
		for k := range uint64(5) {
			b.read(1, k, spanOf(0, 1))
		}
		for _, s := range c.heard {
			b.heard(s.node, s.round)
			b.agrees(c.what)
		}
		if got := b.d.Sure(); got != c.sure {
			t.Errorf("%s: Sure: %d, not %d", c.what, got, c.sure)
		}
		if got := b.d.Len(); got != 5-int(c.sure) {
			t.Errorf("%s: %d wait", c.what, got)
		}
	}
}

// What comes of no node, of self, or too early is as if it had not come, of each number of nodes.
func TestHeardOfNobody(t *testing.T) {
	each(t, func(b *both) {
		for k := range uint64(4) {
			b.begin()
			b.read(1, k, spanOf(0, 1))
			b.write(1, k, 1+k)
		}
		for _, node := range append(nowhere(b.m.nodes), b.m.self) {
			if node >= 0 && node < b.m.nodes && node != b.m.self {
				continue
			}
			for _, round := range []uint64{0, 1, 7, 8, 9, greatest} {
				b.heard(node, round)
			}
		}
		for _, node := range b.others() {
			for _, round := range []uint64{9, 10, 1 << 63, greatest} {
				b.heard(node, round)
			}
		}
		b.agrees("of nobody")
		if b.m.nodes > 1 && (b.d.Sure() != 0 || b.d.Len() != 8) {
			t.Errorf("%d nodes: Sure %d, and %d wait", b.m.nodes, b.d.Sure(), b.d.Len())
		}
		b.begin() // what was said too early isn't said later
		b.begin()
		b.agrees("of nobody, two rounds on")
	})
}

// Just half of the nodes, self among them, are none; one more is a majority.
func TestHeardOfHalf(t *testing.T) {
	need := map[int]int{1: 0, 2: 1, 3: 1, 4: 2, 5: 2, 6: 3, 7: 3} // of others
	each(t, func(b *both) {
		b.begin()
		b.read(1, 1, spanOf(0, 1))
		b.begin()
		for k, node := range b.others() {
			want := uint64(0)
			if k >= need[b.m.nodes] {
				want = 2
			}
			if got := b.d.Sure(); got != want {
				t.Errorf("%d of the others of %d nodes: Sure: %d", k, b.m.nodes, got)
			}
			l := b.heard(node, 2)
			if (k+1 == need[b.m.nodes]) != (len(l) == 1) {
				t.Errorf("%d of the others of %d nodes: %v", k+1, b.m.nodes, l)
			}
			b.agrees("some heard")
		}
	})
}

// Where one node is alone, Sure is Round at once; its reads wait until Heard is asked, of whomever.
func TestAlone(t *testing.T) {
	for _, s := range []said{{0, 0}, {0, 1}, {0, 2}, {0, 3}, {1, 2}, {-1, 0}, {math.MaxInt, greatest}} {
		b := start(t, 1, 0)
		b.begin()
		if got := b.d.Sure(); got != 1 {
			t.Errorf("Sure: %d", got)
		}
		b.read(1, 1, spanOf(0, 1))
		b.write(1, 1, 1)
		if b.d.Sure() != 2 || b.d.Len() != 2 {
			t.Errorf("Sure: %d, and %d wait", b.d.Sure(), b.d.Len())
		}
		if l := b.heard(s.node, s.round); !slices.Equal(l, []desk.Wait{readOf(1, 1, spanOf(0, 1), 2)}) {
			t.Errorf("%v: %v", s, l)
		}
		b.agrees("alone")
		if l := b.heard(s.node, s.round); len(l) != 0 {
			t.Errorf("%v told twice", l)
		}
	}
}

// Reads in rounds below Sure, and at it, are told in order; those above it, and the writes, go on waiting.
func TestHeardTellsReads(t *testing.T) {
	b := start(t, 5, 2)
	for k := range uint64(6) {
		b.read(1, 10-k, spanOf(uint32(k), 1)) // in the rounds 1 to 6
		b.write(1, 10-k, 1+k)
	}
	if l := b.heard(0, 6); len(l) != 0 {
		t.Errorf("one: %v", l)
	}
	want := []desk.Wait{readOf(1, 10, spanOf(0, 1), 1), readOf(1, 9, spanOf(1, 1), 2), readOf(1, 8, spanOf(2, 1), 3)}
	if l := b.heard(4, 3); !slices.Equal(l, want) {
		t.Errorf("two: %v", l)
	}
	b.agrees("two")
	if l := b.heard(3, 3); len(l) != 0 {
		t.Errorf("three: %v", l)
	}
	if l := b.heard(1, 5); !slices.Equal(l, []desk.Wait{readOf(1, 7, spanOf(3, 1), 4), readOf(1, 6, spanOf(4, 1), 5)}) {
		t.Errorf("four: %v", l)
	}
	b.agrees("four")
	if got := b.d.Len(); got != 7 {
		t.Errorf("%d wait", got)
	}
}

// P25.2: Sure.

func TestSureOfSome(t *testing.T) {
	for _, c := range []struct {
		nodes, self int
		at          []uint64 // of the nodes, the last round being 9
		want        uint64
	}{
		{1, 0, []uint64{0}, 9},
		{2, 0, []uint64{0, 0}, 0},
		{2, 1, []uint64{7, 0}, 7},
		{3, 0, []uint64{0, 3, 5}, 5},
		{3, 1, []uint64{3, 0, 0}, 3},
		{4, 0, []uint64{0, 3, 5, 7}, 5},
		{4, 3, []uint64{9, 0, 0, 0}, 0},
		{5, 4, []uint64{1, 2, 3, 4, 0}, 3},
		{5, 0, []uint64{0, 9, 0, 8, 0}, 8},
		{6, 2, []uint64{1, 2, 0, 4, 5, 6}, 4},
		{6, 0, []uint64{0, 9, 9, 0, 0, 0}, 0},
		{7, 6, []uint64{1, 2, 3, 4, 5, 6, 0}, 4},
		{7, 3, []uint64{9, 9, 0, 0, 0, 0, 8}, 8},
		{7, 3, []uint64{9, 9, 0, 0, 0, 0, 0}, 0},
		{7, 0, []uint64{0, 9, 9, 9, 9, 9, 9}, 9},
	} {
		b := start(t, c.nodes, c.self)
		for range 9 {
			b.begin()
		}
		for node, round := range c.at {
			b.heard(node, round)
		}
		if got := b.d.Sure(); got != c.want {
			t.Errorf("%d nodes at %v: %d, not %d", c.nodes, c.at, got, c.want)
		}
		b.agrees("of some")
	}
}

// Each number of nodes, each of the others heard last in each round that there is.
func TestSureOfEach(t *testing.T) {
	const last = 3
	each(t, func(b *both) {
		others := b.others()
		ways := 1
		for range others {
			ways *= last + 1
		}
		for way := range ways {
			x := start(t, b.m.nodes, b.m.self)
			for range last {
				x.begin()
			}
			for _, node := range others {
				x.heard(node, uint64(way%(last+1)))
				way /= last + 1
			}
			x.agrees("of each")
		}
	})
}

// A round that is begun makes nothing sure, but where one node is alone.
func TestSureWithRounds(t *testing.T) {
	g := rand.New(rand.NewSource(251))
	for range 40 {
		each(t, func(b *both) {
			for range 9 {
				was := b.d.Sure()
				b.begin()
				if got := b.d.Sure(); b.m.nodes > 1 && got != was {
					t.Errorf("%d came to be %d", was, got)
				}
				for range g.Intn(4) {
					b.heard(g.Intn(b.m.nodes), uint64(g.Intn(int(b.d.Round())+2)))
				}
				b.agrees("some rounds on")
			}
		})
	}
}

// P25.3: Applied.

func TestApplied(t *testing.T) {
	for _, c := range []struct {
		what string
		m    api.Marks
		want []uint64 // of the indices that wait: 10, 5, 7, 74, 75, 1
	}{
		{"nobody", api.Marks{}, nil},
		{"nobody, Low alone", api.Marks{Low: 0}, nil},
		{"just the first", api.Marks{Low: 1}, []uint64{1}},
		{"Low alone", api.Marks{Low: 7}, []uint64{5, 7, 1}},
		{"one below Low", api.Marks{Low: 6}, []uint64{5, 1}},
		{"Bits alone", api.Marks{Bits: 1<<4 + 1<<9}, []uint64{10, 5}},
		{"Bits of others", api.Marks{Bits: 1<<3 + 1<<5}, nil},
		{"both", api.Marks{Low: 3, Bits: 1 << 6}, []uint64{10, 1}},
		{"the last bit", api.Marks{Low: 10, Bits: 1 << 63}, []uint64{10, 5, 7, 74, 1}},
		{"all bits but the last", api.Marks{Low: 10, Bits: 1<<63 - 2}, []uint64{10, 5, 7, 1}},
		{"just all", api.Marks{Low: 75}, []uint64{10, 5, 7, 74, 75, 1}},
		{"all", api.Marks{Low: greatest}, []uint64{10, 5, 7, 74, 75, 1}},
		{"all, by marks that are not good", api.Marks{Low: greatest, Bits: greatest}, []uint64{10, 5, 7, 74, 75, 1}},
	} {
		b := start(t, 3, 0)
		for k, index := range []uint64{10, 5, 7, 74, 75, 1} {
			b.write(1, uint64(k), index)
			b.read(1, uint64(k), spanOf(0, 1))
		}
		var got []uint64
		for _, w := range b.applied(c.m) {
			got = append(got, w.Index)
		}
		if !slices.Equal(got, c.want) {
			t.Errorf("%s: %v, not %v", c.what, got, c.want)
		}
		b.agrees(c.what)
		if l := b.applied(c.m); len(l) != 0 {
			t.Errorf("%s: %v told twice", c.what, l)
		}
		if got := b.d.Len(); got != 12-len(c.want) {
			t.Errorf("%s: %d wait", c.what, got)
		}
	}
}

// A read's index is 0, which all marks have: reads go on waiting all the same.
func TestAppliedLeavesReads(t *testing.T) {
	each(t, func(b *both) {
		b.read(1, 1, spanOf(0, 1))
		b.read(1, 2, spanOf(5, 3))
		for _, m := range []api.Marks{{}, {Bits: 2}, {Low: 1}, {Low: 64, Bits: greatest - 1}, {Low: greatest}} {
			if l := b.d.Applied(m); len(l) != 0 {
				t.Errorf("%+v: %v", m, l)
			}
		}
		b.agrees("applied")
	})
}

func TestAppliedAtTheGreatest(t *testing.T) {
	b := start(t, 3, 0)
	b.write(1, 1, greatest)
	b.write(1, 2, greatest-1)
	b.write(1, 3, api.MaxIndex)
	b.applied(api.Marks{Low: api.MaxIndex - 1})
	b.applied(api.Marks{Low: api.MaxIndex - 64, Bits: 1 << 63})
	b.agrees("MaxIndex")
	if b.d.Len() != 2 {
		t.Errorf("%d wait", b.d.Len())
	}
	b.applied(api.Marks{Low: greatest - 2, Bits: 2})
	b.agrees("the greatest")
	b.applied(api.Marks{Low: greatest - 1})
	b.agrees("all")
	if b.d.Len() != 0 {
		t.Errorf("%d wait still", b.d.Len())
	}
}

// Several that wait at one index are told together.
func TestAppliedOfOneIndex(t *testing.T) {
	b := start(t, 3, 0)
	b.write(1, 1, 4)
	b.write(2, 1, 4)
	b.write(1, 2, 5)
	b.write(3, 1, 4)
	if l := b.applied(api.Marks{Bits: 1 << 3}); !slices.Equal(l, []desk.Wait{writeOf(1, 1, 4), writeOf(2, 1, 4), writeOf(3, 1, 4)}) {
		t.Errorf("%v", l)
	}
	b.agrees("of one index")
}

// Of one that is nil, or that no call made.

func nothing(t *testing.T, d *desk.Desk) {
	t.Helper()
	if d.Len() != 0 || len(d.All()) != 0 || d.Round() != 0 || d.Sure() != 0 {
		t.Errorf("%d, %v, %d, %d", d.Len(), d.All(), d.Round(), d.Sure())
	}
	for _, n := range []uint64{0, 1, 5, greatest} {
		if e := d.Write(n, n, n); e != api.ErrNil {
			t.Errorf("Write: %d", int(e))
		}
		if round, e := d.Read(n, n, spanOf(uint32(n), 1)); round != 0 || e != api.ErrNil {
			t.Errorf("Read: %d and %d", round, int(e))
		}
		if round := d.Begin(); round != 0 {
			t.Errorf("Begin: %d", round)
		}
		for _, node := range append(nowhere(1), 0) {
			if l := d.Heard(node, n); len(l) != 0 {
				t.Errorf("Heard: %v", l)
			}
		}
		if l := d.Applied(api.Marks{Low: n, Bits: n}); len(l) != 0 {
			t.Errorf("Applied: %v", l)
		}
	}
	if d.Len() != 0 || len(d.All()) != 0 || d.Round() != 0 || d.Sure() != 0 {
		t.Errorf("asked: %d, %v, %d, %d", d.Len(), d.All(), d.Round(), d.Sure())
	}
}

func TestNil(t *testing.T) {
	nothing(t, nil)
}

func TestThatNoCallMade(t *testing.T) {
	var d desk.Desk
	nothing(t, &d)
	nothing(t, &desk.Desk{})
	nothing(t, new(desk.Desk))
}

// P25.4

// ledger counts what came, and what went, by what can't come twice: each read has a round of its own, each write a number.
type ledger struct {
	came, told, again map[desk.Wait]int
}

func (l *ledger) add(what map[desk.Wait]int, ws ...desk.Wait) {
	for _, w := range ws {
		what[w]++
	}
}

// balanced tells whether each that came was told just once, came again, or waits still.
func (l *ledger) balanced(t *testing.T, d *desk.Desk) {
	t.Helper()
	waits := map[desk.Wait]int{}
	l.add(waits, d.All()...)
	for w, n := range l.came {
		if n != 1 || l.told[w]+l.again[w]+waits[w] != 1 {
			t.Errorf("%v came %d times: told %d, again %d, waiting %d", w, n, l.told[w], l.again[w], waits[w])
		}
	}
	if len(l.came) != len(l.told)+len(l.again)+len(waits) {
		t.Errorf("%d came; %d told, %d again, %d waiting", len(l.came), len(l.told), len(l.again), len(waits))
	}
}

// step does one thing of many, and tells the ledger.
func (b *both) step(g *rand.Rand, l *ledger, serial uint64) {
	b.t.Helper()
	client, req := uint64(g.Intn(4)), uint64(g.Intn(30))
	switch g.Intn(8) {
	case 0, 1, 2:
		index := 1 + serial
		had := b.m.find(false, client, req) != nil
		if b.write(client, req, index) == api.OK && !had {
			l.add(l.came, writeOf(client, req, index))
		}
	case 3, 4, 5:
		if x := b.m.find(true, client, req); x != nil {
			l.add(l.again, x.w)
		}
		if b.read(client, req, spanOf(uint32(serial), 1)) == api.OK {
			l.add(l.came, readOf(client, req, spanOf(uint32(serial), 1), b.m.round))
		}
	case 6:
		got := b.heard(g.Intn(b.m.nodes+1)-1, b.m.round+1-uint64(g.Intn(9)))
		l.add(l.told, got...)
		for _, w := range got {
			if !b.m.agreed(w.Round) {
				b.t.Errorf("%v was told ahead of a majority", w)
			}
		}
	case 7:
		m := api.Marks{Low: serial - uint64(g.Intn(int(min(serial, 60))+1)), Bits: g.Uint64() &^ 1}
		l.add(l.told, b.applied(m)...)
	}
}

func TestStepByStep(t *testing.T) {
	g := rand.New(rand.NewSource(254))
	for range 6 {
		each(t, func(b *both) {
			l := &ledger{map[desk.Wait]int{}, map[desk.Wait]int{}, map[desk.Wait]int{}}
			for k := range uint64(150) {
				b.step(g, l, k)
				if k%10 == 0 {
					b.agrees("step by step")
					l.balanced(t, b.d)
				}
			}
			b.agrees("step by step")
			l.balanced(t, b.d)
			l.add(l.told, b.applied(api.Marks{Low: 1000})...)
			b.heard(-1, 0)
			for _, node := range b.others() {
				b.heard(node, b.d.Round())
			}
			b.agrees("at the end")
			if b.d.Len() != 0 {
				t.Errorf("%v wait at the end", b.d.All())
			}
		})
	}
}

// Two desks are each other's nothing.
func TestTwoDesks(t *testing.T) {
	a, b := start(t, 3, 0), start(t, 5, 1)
	for k := range uint64(6) {
		a.write(1, k, 1+k)
		b.read(1, k, spanOf(0, 1))
		a.read(2, k, spanOf(1, 1))
		a.heard(2, k)
		b.heard(0, k)
		b.applied(api.Marks{Low: 9})
		a.agrees("one")
		b.agrees("the other one")
	}
}
