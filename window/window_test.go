package window_test

import (
	"math"
	"math/rand"
	"slices"
	"testing"

	"keelson/api"
	"keelson/marks"
	"keelson/window"
)

const (
	greatest = math.MaxUint64
	most     = api.MaxIndex - 2*api.MaxMarks - api.MaxLog // the greatest low
	room     = api.MaxLog
)

// nowhere is what is no node of so many.
func nowhere(nodes int) []int {
	return []int{math.MinInt, math.MinInt + 1, -1 << 32, -64, -nodes, -2, -1, nodes, nodes + 1, 7, 8, 63, 64, 64 + nodes - 1, 1 << 32, 1<<32 + 1, math.MaxInt - 1, math.MaxInt}
}

// lows are some that may be, from the least to the greatest.
func lows() []uint64 {
	return []uint64{0, 1, 5, 63, 64, 65, 191, 192, 193, 1 << 32, 1<<61 + 7, most - 1, most}
}

// model is a window as the tests tell it: a line for each time that a node came to have an index.
type model struct {
	nodes int
	low   uint64
	lines [][2]uint64 // of a node and an index
}

func (m *model) has(node int, index uint64) bool {
	return node >= 0 && slices.Contains(m.lines, [2]uint64{uint64(node), index})
}

func (m *model) ack(node int, index uint64) api.Errno {
	switch {
	case node < 0 || node >= m.nodes:
		return api.ErrArg
	case index <= m.low:
		return api.ErrOld
	case index-m.low > 192:
		return api.ErrRange
	}
	m.lines = append(m.lines, [2]uint64{uint64(node), index})
	return api.OK
}

func (m *model) who(index uint64) uint64 {
	set, bit := uint64(0), uint64(1)
	for node := range m.nodes {
		if m.has(node, index) {
			set += bit
		}
		bit += bit
	}
	return set
}

// agreed tells whether more nodes have an index than not.
func (m *model) agreed(index uint64) bool {
	n := 0
	for node := range m.nodes {
		if m.has(node, index) {
			n++
		} else {
			n--
		}
	}
	return n > 0
}

func (m *model) committed() api.Marks {
	out := api.Marks{Low: m.low}
	for m.agreed(out.Low + 1) {
		out.Low++
	}
	bit := uint64(1)
	for k := range uint64(64) {
		if m.agreed(out.Low + 1 + k) {
			out.Bits += bit
		}
		bit += bit
	}
	return out
}

func (m *model) lacks(node int, top uint64) []uint64 {
	var l []uint64
	for k := range uint64(192) {
		index := m.low + 1 + k
		if node >= 0 && node < m.nodes && index <= top && !m.has(node, index) {
			l = append(l, index)
		}
	}
	return l
}

// both is a window, and the model that must tell the same.
type both struct {
	t *testing.T
	w *window.Window
	m *model
}

func start(t *testing.T, nodes int, low uint64) *both {
	t.Helper()
	w := window.New(nodes, low)
	if w == nil {
		t.Fatalf("no window of %d nodes from %d on", nodes, low)
	}
	return &both{t, w, &model{nodes: nodes, low: low}}
}

func (b *both) ack(node int, index uint64) {
	b.t.Helper()
	want := b.m.ack(node, index)
	if got := b.w.Ack(node, index); got != want {
		b.t.Errorf("Ack(%d, %d) of %d nodes from %d on: %d, not %d", node, index, b.m.nodes, b.m.low, int(got), int(want))
	}
}

// acks lets some nodes have some indices above low.
func (b *both) acks(nodes []int, above ...uint64) {
	b.t.Helper()
	for _, k := range above {
		for _, node := range nodes {
			b.ack(node, b.m.low+k)
		}
	}
}

func (b *both) clone() *both {
	return &both{b.t, b.w.Clone(), &model{b.m.nodes, b.m.low, slices.Clone(b.m.lines)}}
}

func (b *both) committed(what string) {
	b.t.Helper()
	got, want := b.w.Committed(), b.m.committed()
	if got != want {
		b.t.Errorf("%s: Committed: %+v, not %+v", what, got, want)
	}
	if !marks.Good(got) {
		b.t.Errorf("%s: Committed: %+v are not good", what, got)
	}
}

func (b *both) lacks(what string, node int, top uint64) {
	b.t.Helper()
	got, want := b.w.Lacks(node, top), b.m.lacks(node, top)
	if !slices.Equal(got, want) {
		b.t.Errorf("%s: Lacks(%d, %d) from %d on: %v, not %v", what, node, top, b.m.low, got, want)
	}
}

func (b *both) who(what string, index uint64) {
	b.t.Helper()
	if got, want := b.w.Who(index), b.m.who(index); got != want {
		b.t.Errorf("%s: Who(%d) from %d on: %b, not %b", what, index, b.m.low, got, want)
	}
}

// agrees tells whether all that asks says the same as the model.
func (b *both) agrees(what string) {
	b.t.Helper()
	if got := b.w.Nodes(); got != b.m.nodes {
		b.t.Errorf("%s: Nodes: %d", what, got)
	}
	b.committed(what)
	for k := range uint64(room + 3) {
		b.who(what, b.m.low+k)
	}
	for _, index := range []uint64{0, 1, b.m.low - 1, api.MaxIndex, greatest - 1, greatest} {
		b.who(what, index)
	}
	for node := -1; node <= b.m.nodes; node++ {
		for _, top := range []uint64{0, b.m.low - 1, b.m.low, b.m.low + 1, b.m.low + 2, b.m.low + 64, b.m.low + room - 1, b.m.low + room, b.m.low + room + 1, greatest} {
			b.lacks(what, node, top)
		}
	}
}

// P21.1

func TestNew(t *testing.T) {
	for nodes, want := range map[int]bool{-1: false, 0: false, 1: true, 2: true, 3: true, 4: true, 5: true, 6: true, api.MaxNodes: true, api.MaxNodes + 1: false, 64: false, 1<<8 + 3: false, 1<<32 + 3: false, math.MinInt: false, math.MaxInt: false} {
		for _, low := range lows() {
			if got := window.New(nodes, low) != nil; got != want {
				t.Errorf("New(%d, %d): %v", nodes, low, got)
			}
		}
	}
	for _, low := range []uint64{most + 1, most + 2, most + 64, most + 192, api.MaxIndex - 1, api.MaxIndex, api.MaxIndex + 1, 1 << 63, greatest - 192, greatest - 1, greatest} {
		for nodes := -1; nodes <= api.MaxNodes+1; nodes++ {
			if window.New(nodes, low) != nil {
				t.Errorf("New(%d, %d)", nodes, low)
			}
		}
	}
}

func TestNewHasNothing(t *testing.T) {
	for nodes := 1; nodes <= api.MaxNodes; nodes++ {
		for _, low := range lows() {
			b := start(t, nodes, low)
			b.agrees("a new one")
			if got := b.w.Committed(); got != (api.Marks{Low: low}) {
				t.Errorf("%+v of low %d", got, low)
			}
		}
	}
}

func TestNodes(t *testing.T) {
	for nodes := 1; nodes <= api.MaxNodes; nodes++ {
		b := start(t, nodes, 3)
		for step := range 2 {
			if got := b.w.Nodes(); got != nodes {
				t.Errorf("%d, not %d, at %d", got, nodes, step)
			}
			b.ack(0, 4)
		}
	}
}

func TestAckOfEachIndex(t *testing.T) {
	for nodes := 1; nodes <= api.MaxNodes; nodes++ {
		for _, low := range lows() {
			for _, node := range []int{0, nodes / 2, nodes - 1} {
				b := start(t, nodes, low)
				for _, index := range []uint64{0, 1, low - 1, low, low + 1, low + 2, low + room - 1, low + room, low + room + 1, low + room + 2, low + 2*room, api.MaxIndex, 1 << 63, greatest - 1, greatest} {
					b.ack(node, index)
					b.who("one that has some", index)
				}
				b.agrees("one that has some")
			}
		}
	}
}

func TestAckOfSome(t *testing.T) {
	rows := []struct {
		node  int
		index uint64
		want  api.Errno
	}{
		{-1, 6, api.ErrArg},
		{0, 6, api.OK},
		{2, 6, api.OK},
		{3, 6, api.ErrArg},
		{64, 6, api.ErrArg},
		{0, 4, api.ErrOld},
		{0, 5, api.ErrOld},
		{0, 0, api.ErrOld},
		{0, 5 + 192, api.OK},
		{0, 6 + 192, api.ErrRange},
		{0, greatest, api.ErrRange},
	}
	for _, r := range rows {
		if got := window.New(3, 5).Ack(r.node, r.index); got != r.want {
			t.Errorf("Ack(%d, %d): %d, not %d", r.node, r.index, int(got), int(r.want))
		}
	}
}

// Who is no node is told so first, whatever the index.
func TestAckOfNobody(t *testing.T) {
	for nodes := 1; nodes <= api.MaxNodes; nodes++ {
		b := start(t, nodes, 100)
		b.acks([]int{0}, 1, 3)
		for _, node := range nowhere(nodes) {
			for _, index := range []uint64{0, 100, 101, 102, 100 + room, 101 + room, greatest} {
				b.ack(node, index)
				b.who("asked by who is no node", index)
			}
		}
		b.agrees("asked by who is no node")
	}
}

func TestAckTwice(t *testing.T) {
	for nodes := 1; nodes <= api.MaxNodes; nodes++ {
		b := start(t, nodes, 9)
		for range 9 { // one alone is no majority, however often it says so
			b.ack(nodes-1, 10)
			b.ack(nodes-1, 12)
			b.ack(0, 9)
		}
		b.agrees("told often")
	}
}

func TestAckThatIsRefused(t *testing.T) {
	b := start(t, 3, 20)
	b.acks([]int{0, 1}, 1, 4)
	b.acks([]int{2}, 4)
	for node := -1; node <= 3; node++ {
		for _, index := range []uint64{0, 19, 20, 21 + room, greatest} {
			b.ack(node, index)
		}
	}
	b.agrees("refused")
}

func TestWho(t *testing.T) {
	for nodes := 1; nodes <= api.MaxNodes; nodes++ {
		for _, low := range lows() {
			b := start(t, nodes, low)
			all := uint64(0)
			for node := range nodes {
				b.ack(node, low+1)
				b.ack(node, low+room)
				all += 1 << node
				for _, index := range []uint64{low + 1, low + room} {
					if got := b.w.Who(index); got != all {
						t.Errorf("Who(%d): %b, not %b", index, got, all)
					}
				}
			}
			b.ack(nodes-1, low+2)
			if got := b.w.Who(low + 2); got != 1<<(nodes-1) {
				t.Errorf("Who of one: %b", got)
			}
			for _, index := range []uint64{0, low - 1, low, low + 3, low + room - 1, low + room + 1, low + 2*room, greatest} {
				if got := b.w.Who(index); got != 0 {
					t.Errorf("Who(%d) from %d on: %b", index, low, got)
				}
			}
		}
	}
}

// Who asks what nobody has makes nobody have it.
func TestWhoChangesNothing(t *testing.T) {
	b := start(t, 1, 5)
	for index := range uint64(300) {
		b.w.Who(index)
		b.w.Lacks(0, index)
	}
	b.agrees("asked of all")
}

// P21.2

func TestCommittedBySoMany(t *testing.T) {
	need := map[int]int{1: 1, 2: 2, 3: 2, 4: 3, 5: 3, 6: 4, 7: 4}
	for nodes := 1; nodes <= api.MaxNodes; nodes++ {
		for set := range 1 << nodes {
			b := start(t, nodes, 30)
			have := 0
			for node := range nodes {
				if set>>node&1 == 1 {
					b.ack(node, 31)
					b.ack(node, 33)
					have++
				}
			}
			want := api.Marks{Low: 30}
			if have >= need[nodes] {
				want = api.Marks{Low: 31, Bits: 2}
			}
			if got := b.w.Committed(); got != want {
				t.Errorf("%b of %d nodes: %+v", set, nodes, got)
			}
			b.committed("some have it")
		}
	}
}

func TestCommittedOfNobody(t *testing.T) {
	for nodes := 2; nodes <= api.MaxNodes; nodes++ {
		b := start(t, nodes, 30)
		for k := range uint64(room) { // each has something else
			b.ack(int(k)%nodes, 31+k)
		}
		if got := b.w.Committed(); got != (api.Marks{Low: 30}) {
			t.Errorf("%d nodes: %+v", nodes, got)
		}
		b.agrees("each has something else")
	}
}

func TestCommittedOfSome(t *testing.T) {
	rows := []struct {
		above []uint64 // what two of three have, above 5
		want  api.Marks
	}{
		{nil, api.Marks{Low: 5}},
		{[]uint64{1}, api.Marks{Low: 6}},
		{[]uint64{2}, api.Marks{Low: 5, Bits: 2}},
		{[]uint64{2, 1}, api.Marks{Low: 7}},
		{[]uint64{3, 1}, api.Marks{Low: 6, Bits: 2}},
		{[]uint64{2, 4, 6}, api.Marks{Low: 5, Bits: 2 + 8 + 32}},
		{[]uint64{6, 1, 4, 2}, api.Marks{Low: 7, Bits: 2 + 8}},
		{[]uint64{64}, api.Marks{Low: 5, Bits: 1 << 63}},
		{[]uint64{65}, api.Marks{Low: 5}},
		{[]uint64{192}, api.Marks{Low: 5}},
		{[]uint64{65, 2, 64}, api.Marks{Low: 5, Bits: 1<<63 + 2}},
		{[]uint64{65, 1}, api.Marks{Low: 6, Bits: 1 << 63}},
		{[]uint64{1, 66}, api.Marks{Low: 6}},
		{[]uint64{67, 66, 65, 64, 3, 2, 1}, api.Marks{Low: 8, Bits: 0xf << 60}},
		{[]uint64{67, 66, 65, 64, 2, 1}, api.Marks{Low: 7, Bits: 7 << 61}},
	}
	for _, r := range rows {
		for _, two := range [][]int{{0, 1}, {2, 0}, {1, 2}, {2, 1, 0}} {
			b := start(t, 3, 5)
			b.acks(two, r.above...)
			if got := b.w.Committed(); got != r.want {
				t.Errorf("%v: %+v, not %+v", r.above, got, r.want)
			}
			b.committed("of some")
		}
	}
}

// The room moves on with what is committed, as far as the last index that may be had.
func TestCommittedOfAll(t *testing.T) {
	for _, low := range lows() {
		b := start(t, 3, low)
		for k := uint64(room); k > 1; k-- {
			b.acks([]int{0, 2}, k)
			want := api.Marks{Low: low}
			if k <= 64 {
				want.Bits = ^uint64(0) << (k - 1)
			}
			if got := b.w.Committed(); got != want {
				t.Fatalf("from %d on: %+v, not %+v", k, got, want)
			}
		}
		b.acks([]int{1, 0}, 1)
		if got := b.w.Committed(); got != (api.Marks{Low: low + room}) {
			t.Errorf("all: %+v", got)
		}
		b.agrees("all")
	}
}

func TestCommittedWithoutTheFirst(t *testing.T) {
	b := start(t, 5, 0)
	for k := uint64(2); k <= room; k++ {
		b.acks([]int{0, 3, 4}, k)
	}
	if got := b.w.Committed(); got != (api.Marks{Bits: greatest - 1}) {
		t.Errorf("%+v", got)
	}
	b.acks([]int{2, 1}, 1)
	if got := b.w.Committed(); got != (api.Marks{Bits: greatest - 1}) {
		t.Errorf("with two of five: %+v", got)
	}
	b.acks([]int{0}, 1)
	if got := b.w.Committed(); got != (api.Marks{Low: room}) {
		t.Errorf("with three of five: %+v", got)
	}
}

func TestLacks(t *testing.T) {
	for _, low := range lows() {
		for nodes := 1; nodes <= api.MaxNodes; nodes++ {
			b := start(t, nodes, low)
			for k := range uint64(room) {
				b.ack(0, low+1+k) // it has all
				if k%5 == 1 || k == room-1 {
					b.ack(nodes-1, low+1+k) // has some, or all
				}
			}
			b.agrees("some have some")
			for _, node := range nowhere(nodes) {
				b.lacks("no node", node, low+7)
			}
			if got := b.w.Lacks(0, greatest); len(got) != 0 {
				t.Errorf("who has all lacks %v", got)
			}
			if nodes > 2 {
				if got := b.w.Lacks(1, low+3); !slices.Equal(got, []uint64{low + 1, low + 2, low + 3}) {
					t.Errorf("who has none lacks %v", got)
				}
			}
		}
	}
}

func TestLacksUpTo(t *testing.T) {
	b := start(t, 3, 10)
	b.acks([]int{1}, 1, 3, 192)
	for top := range uint64(10 + room + 5) {
		for node := range 3 {
			b.lacks("up to each", node, top)
		}
	}
	rows := []struct {
		top  uint64
		want []uint64
	}{
		{0, nil}, {9, nil}, {10, nil}, {11, nil}, {12, []uint64{12}}, {13, []uint64{12}}, {14, []uint64{12, 14}},
	}
	for _, r := range rows {
		if got := b.w.Lacks(1, r.top); !slices.Equal(got, r.want) {
			t.Errorf("up to %d: %v", r.top, got)
		}
	}
	for top, want := range map[uint64]int{200: 188, 201: 189, 202: 189, 203: 189, greatest: 189} {
		if got := b.w.Lacks(1, top); len(got) != want {
			t.Errorf("up to %d: %d, not %d", top, len(got), want)
		}
	}
	for top, want := range map[uint64]int{201: 191, 202: 192, 203: 192, 1 << 63: 192, greatest: 192} {
		if got := b.w.Lacks(0, top); len(got) != want {
			t.Errorf("of none, up to %d: %d, not %d", top, len(got), want)
		}
	}
}

func TestLacksAreNobodys(t *testing.T) {
	b := start(t, 3, 10)
	b.acks([]int{1}, 2)
	l := b.w.Lacks(1, 14)
	clear(l[:cap(l)])
	b.agrees("with a list that was written into")
}

func TestExample(t *testing.T) {
	w := window.New(3, 5)
	w.Ack(0, 7)
	w.Ack(2, 7)
	if got := w.Committed(); got != (api.Marks{Low: 5, Bits: 2}) {
		t.Errorf("%+v", got)
	}
}

func TestCloneGoesItsOwnWay(t *testing.T) {
	for nodes := 1; nodes <= api.MaxNodes; nodes++ {
		b := start(t, nodes, 40)
		b.agrees("a clone of nothing")
		none := b.clone()
		b.acks([]int{0, nodes - 1}, 1, 3)
		none.agrees("a clone of nothing, the other one having some")
		c := b.clone()
		c.agrees("a clone")
		b.acks([]int{0, nodes / 2}, 3, 4, 70)
		c.agrees("a clone, the other one having more")
		d := c.clone()
		c.acks([]int{0, 1}, 2, 192)
		c.ack(-1, 41)
		b.agrees("the clone having more")
		c.agrees("a clone that has more")
		d.agrees("a clone's clone")
		none.acks([]int{0}, 5)
		none.agrees("a clone of nothing that has some")
		b.agrees("the clone of nothing having some")
	}
}

func nothing(t *testing.T, w *window.Window, ack api.Errno) {
	t.Helper()
	for _, node := range []int{-1, 0, 1, 6, 63, 64, math.MinInt, math.MaxInt} {
		for _, index := range []uint64{0, 1, 2, 192, 193, api.MaxIndex, greatest} {
			if got := w.Ack(node, index); got != ack {
				t.Errorf("Ack(%d, %d): %d, not %d", node, index, int(got), int(ack))
			}
			if got := w.Lacks(node, index); len(got) != 0 {
				t.Errorf("Lacks(%d, %d): %v", node, index, got)
			}
			if got := w.Who(index); got != 0 {
				t.Errorf("Who(%d): %b", index, got)
			}
		}
	}
	if got := w.Committed(); got != (api.Marks{}) {
		t.Errorf("Committed: %+v", got)
	}
	if got := w.Nodes(); got != 0 {
		t.Errorf("Nodes: %d", got)
	}
}

func TestNil(t *testing.T) {
	var w *window.Window
	nothing(t, w, api.ErrNil)
	if w.Clone() != nil {
		t.Error("nil has a clone")
	}
}

// One that no call made has no nodes: it is asked of a node that there is not.
func TestThatNoCallMade(t *testing.T) {
	var w window.Window
	nothing(t, &w, api.ErrArg)
	nothing(t, &window.Window{}, api.ErrArg)
	c := w.Clone()
	if c == nil {
		t.Fatal("no clone")
	}
	nothing(t, c, api.ErrArg)
	nothing(t, &w, api.ErrArg)
}

// P21.3

// orders hands each order of the numbers below n to do.
func orders(n int, do func(order []int)) {
	var more func(order []int)
	more = func(order []int) {
		if len(order) == n {
			do(order)
			return
		}
		for k := range n {
			if !slices.Contains(order, k) {
				more(append(slices.Clone(order), k))
			}
		}
	}
	more(nil)
}

// stays tells whether all that was committed is, and what is committed is just what the model says.
func (b *both) stays(what string, before api.Marks) api.Marks {
	b.t.Helper()
	b.committed(what)
	after := b.w.Committed()
	if after.Low < before.Low {
		b.t.Errorf("%s: %+v came to be %+v", what, before, after)
	}
	for _, index := range marks.All(before) {
		if !marks.Has(after, index) {
			b.t.Errorf("%s: %d is committed no more: %+v came to be %+v", what, index, before, after)
		}
	}
	return after
}

func TestInEachOrder(t *testing.T) {
	type line struct {
		node  int
		above uint64
	}
	stories := [][]line{
		{{0, 1}, {1, 1}, {2, 1}, {0, 2}, {1, 2}, {2, 3}, {0, 3}},
		{{0, 1}, {2, 1}, {0, 65}, {1, 65}, {1, 66}, {2, 66}},
		{{1, 2}, {2, 2}, {0, 64}, {2, 64}, {0, 1}, {1, 1}, {0, 2}},
		{{0, 192}, {1, 192}, {0, 3}, {0, 3}, {1, 3}, {2, 1}},
	}
	for _, low := range []uint64{0, 77, most} {
		for _, story := range stories {
			ends := map[api.Marks]bool{}
			orders(len(story), func(order []int) {
				b := start(t, 3, low)
				m := b.w.Committed()
				for _, k := range order {
					b.ack(story[k].node, low+story[k].above)
					m = b.stays("in each order", m)
				}
				ends[m] = true
			})
			if len(ends) != 1 {
				t.Errorf("%v: %d ends", story, len(ends))
			}
		}
	}
}

func TestInSomeOrder(t *testing.T) {
	g := rand.New(rand.NewSource(21))
	for range 60 {
		nodes := 1 + g.Intn(api.MaxNodes)
		low := lows()[g.Intn(len(lows()))]
		wide := 1 + g.Intn(room)
		type line struct {
			node  int
			index uint64
		}
		var story []line
		for range 150 {
			story = append(story, line{g.Intn(nodes), low + 1 + uint64(g.Intn(wide))})
		}
		var end api.Marks
		for turn := range 3 {
			b := start(t, nodes, low)
			m := b.w.Committed()
			for _, l := range story {
				b.ack(l.node, l.index)
				m = b.stays("in some order", m)
			}
			if turn > 0 && m != end {
				t.Errorf("%+v, not %+v", m, end)
			}
			end = m
			b.agrees("in some order")
			g.Shuffle(len(story), func(i, j int) { story[i], story[j] = story[j], story[i] })
		}
	}
}

func TestStepByStep(t *testing.T) {
	g := rand.New(rand.NewSource(22))
	for range 80 {
		nodes := 1 + g.Intn(api.MaxNodes)
		low := lows()[g.Intn(len(lows()))]
		all := []*both{start(t, nodes, low)}
		for range 120 {
			b := all[g.Intn(len(all))]
			switch k := g.Intn(20); {
			case k == 0 && len(all) < 4:
				all = append(all, b.clone())
			case k == 1:
				b.ack(nowhere(nodes)[g.Intn(len(nowhere(nodes)))], low+uint64(g.Intn(4)))
			case k == 2:
				b.ack(g.Intn(nodes), low-uint64(g.Intn(3)))
			case k == 3:
				b.ack(g.Intn(nodes), low+room-1+uint64(g.Intn(4)))
			default:
				b.ack(g.Intn(nodes), low+1+uint64(g.Intn(8)))
			}
			for _, x := range all {
				x.committed("step by step")
			}
		}
		for _, x := range all {
			x.agrees("step by step")
		}
	}
}
