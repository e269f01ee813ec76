package member_test

import (
	"math"
	"math/rand"
	"slices"
	"strconv"
	"strings"
	"testing"

	"keelson/api"
	"keelson/chain"
	"keelson/member"
	"keelson/quorum"
)

const (
	greatest = math.MaxUint64
	all      = 127 // the seven nodes
)

// terms are some, from the least to the greatest.
func terms() []uint64 {
	return []uint64{0, 1, 2, 77, 1 << 32, api.MaxIndex, api.MaxIndex + 1, 1 << 63, greatest}
}

// others are numbers that have bits of no node, some of them nodes' bits, too.
func others() []uint64 {
	l := []uint64{greatest, greatest - 1, greatest - all, 256 + 1, 1<<32 + 1, 1<<63 + 5, 1<<8 - 1, 1<<16 + all}
	for k := 7; k < 64; k++ {
		l = append(l, 1<<k, 1<<k|1, 1<<k|all, 1<<k|1<<6)
	}
	return l
}

// nodes tells a set's nodes, rising, by its digits.
func nodes(set uint64) []int {
	var l []int
	digits := strconv.FormatUint(set, 2)
	for k := range digits {
		if digits[len(digits)-1-k] == '1' {
			l = append(l, k)
		}
	}
	return l
}

// set tells the set of these nodes.
func set(l ...int) uint64 {
	n := uint64(0)
	for _, k := range l {
		n += []uint64{1, 2, 4, 8, 16, 32, 64}[k]
	}
	return n
}

// told is the item of a set, laid by hand.
func told(set byte, term uint64) chain.Item {
	return chain.Item{Term: term, Kind: 2, Text: string([]byte{set})}
}

// P30.1

func TestKinds(t *testing.T) {
	if member.KindText != 0 || member.KindNoop != 1 || member.KindMember != 2 {
		t.Error(member.KindText, member.KindNoop, member.KindMember)
	}
}

func TestItemAndOfEachSet(t *testing.T) {
	for n := 1; n <= all; n++ {
		for _, term := range terms() {
			want := told(byte(n), term)
			if got, ok := member.Item(uint64(n), term); got != want || !ok {
				t.Errorf("Item(%b, %d): %#v, %v", n, term, got, ok)
			}
			if got, ok := member.Of(want); got != uint64(n) || !ok {
				t.Errorf("Of the item of %b: %b, %v", n, got, ok)
			}
		}
	}
}

func TestItemOfNoSet(t *testing.T) {
	for _, n := range append(others(), 0) {
		for _, term := range terms() {
			if got, ok := member.Item(n, term); got != (chain.Item{}) || ok {
				t.Errorf("Item(%b, %d): %#v, %v", n, term, got, ok)
			}
		}
	}
}

// untold are items that tell of no set.
func untold() []chain.Item {
	l := []chain.Item{
		{},
		{Term: 5},
		{Kind: 1},
		{Kind: 2},
		{Kind: 2, Text: "\x00"},
		{Kind: 2, Text: "\x00\x01"},
		{Kind: 2, Text: "\x01\x00"},
		{Kind: 2, Text: "\x01\x01"},
		{Kind: 2, Text: "\x7f\x7f"},
		{Kind: 2, Text: "\x05\x00\x00\x00\x00\x00\x00\x00"},
		{Kind: 2, Text: strings.Repeat("\x03", 300)},
		{Kind: 2, Text: strings.Repeat("\x01", api.MaxText+1)},
	}
	for n := 128; n < 256; n++ {
		l = append(l, told(byte(n), 3))
	}
	for _, kind := range []int{math.MinInt, -2, -1, 0, 1, 3, 4, 258, 1<<32 + 2, math.MaxInt} {
		for _, n := range []byte{0, 1, 2, 64, 127, 128, 255} {
			l = append(l, chain.Item{Term: 3, Kind: kind, Text: string([]byte{n})})
		}
		l = append(l, chain.Item{Kind: kind}, chain.Item{Kind: kind, Text: "\x01\x02"})
	}
	return l
}

func TestOfWhatTellsOfNone(t *testing.T) {
	for _, x := range untold() {
		for _, term := range terms() {
			x.Term = term
			if got, ok := member.Of(x); got != 0 || ok {
				t.Errorf("Of an item of the kind %d, and %d bytes: %b, %v", x.Kind, len(x.Text), got, ok)
			}
		}
	}
}

// made is a chain of these items, each of the term 3.
func made(t *testing.T, base uint64, l ...chain.Item) *chain.Chain {
	t.Helper()
	c := chain.New(base, 3)
	for k, x := range l {
		x.Term = 3
		if e := c.Add(x); e != api.OK {
			t.Fatalf("the item %d: %d", k, int(e))
		}
	}
	return c
}

// lasts asks for the last set, and for that up to each number.
func lasts(t *testing.T, first, base uint64, l ...chain.Item) {
	t.Helper()
	c := made(t, base, l...)
	want, at := first, base
	for _, i := range []uint64{0, base / 2, base - min(base, 1), base} {
		if got := member.Upto(first, c, i); got != first {
			t.Errorf("Upto(%b, %d), behind %d: %b", first, i, base, got)
		}
	}
	for k, x := range l {
		// the items that the tests make tell of a set just where they are laid so by hand
		if x.Kind == 2 && len(x.Text) == 1 && x.Text[0] > 0 && x.Text[0] <= all {
			want, at = uint64(x.Text[0]), base+uint64(k)+1
		}
		i := base + uint64(k) + 1
		if got := member.Upto(first, c, i); got != want {
			t.Errorf("Upto(%b, %d), behind %d: %b, not %b", first, i, base, got, want)
		}
	}
	if got, n := member.Last(first, c); got != want || n != at {
		t.Errorf("Last(%b) behind %d: %b at %d, not %b at %d", first, base, got, n, want, at)
	}
	for _, i := range []uint64{c.Last(), c.Last() + 1, c.Last() + 64, 1 << 63, greatest - 1, greatest} {
		if got := member.Upto(first, c, i); got != want {
			t.Errorf("Upto(%b, %d), behind %d: %b, not %b", first, i, base, got, want)
		}
	}
	if c.Base() != base || c.Last() != base+uint64(len(l)) {
		t.Error("what was handed in is changed")
	}
}

func TestLastAndUpto(t *testing.T) {
	text := chain.Item{Text: "\x05"}
	noop := chain.Item{Kind: 1}
	for _, base := range []uint64{0, 1, 5, 1 << 32, api.MaxIndex} {
		for _, first := range []uint64{0, 1, 7, all, 128, greatest} {
			lasts(t, first, base)
			lasts(t, first, base, text)
			lasts(t, first, base, noop, text, noop)
			lasts(t, first, base, told(9, 0))
			lasts(t, first, base, told(9, 0), noop)
			lasts(t, first, base, noop, told(9, 0))
			lasts(t, first, base, noop, told(9, 0), text, text)
			lasts(t, first, base, told(9, 0), told(9, 0))
			lasts(t, first, base, told(1, 0), told(3, 0), told(2, 0))
			lasts(t, first, base, noop, told(1, 0), text, told(127, 0), text, told(64, 0), noop)
			lasts(t, first, base, untold()...)
		}
		for _, x := range untold() {
			lasts(t, 3, base, told(6, 0), x)
			lasts(t, 3, base, noop, told(5, 0), told(6, 0), x, x, noop)
			lasts(t, 3, base, x, told(6, 0))
		}
	}
}

func TestLastOfSome(t *testing.T) {
	c := made(t, 10, chain.Item{Kind: 1}, told(7, 0), chain.Item{Text: "x"}, told(15, 0), told(200, 0), chain.Item{})
	if set, at := member.Last(3, c); set != 15 || at != 14 {
		t.Errorf("%b at %d", set, at)
	}
	for i, want := range map[uint64]uint64{0: 3, 9: 3, 10: 3, 11: 3, 12: 7, 13: 7, 14: 15, 15: 15, 16: 15, 17: 15, greatest: 15} {
		if got := member.Upto(3, c, i); got != want {
			t.Errorf("Upto %d: %b, not %b", i, got, want)
		}
	}
	c.Cut(12) // of the set at the base its items tell no more
	if set, at := member.Last(3, c); set != 15 || at != 14 {
		t.Errorf("%b at %d", set, at)
	}
	for i, want := range map[uint64]uint64{0: 3, 11: 3, 12: 3, 13: 3, 14: 15} {
		if got := member.Upto(3, c, i); got != want {
			t.Errorf("behind 12, Upto %d: %b, not %b", i, got, want)
		}
	}
	c.Cut(16)
	if set, at := member.Last(7, c); set != 7 || at != 16 {
		t.Errorf("%b at %d", set, at)
	}
}

func TestLastOfNil(t *testing.T) {
	for _, c := range []*chain.Chain{nil, {}} {
		for _, first := range []uint64{0, 1, 7, all, 128, greatest} {
			if set, at := member.Last(first, c); set != first || at != 0 {
				t.Errorf("Last(%b): %b at %d", first, set, at)
			}
			for _, i := range []uint64{0, 1, 5, greatest} {
				if set := member.Upto(first, c, i); set != first {
					t.Errorf("Upto(%b, %d): %b", first, i, set)
				}
			}
		}
	}
}

func TestLastOfLongOnes(t *testing.T) {
	r := rand.New(rand.NewSource(30))
	some := untold()
	for range 60 {
		var l []chain.Item
		for range r.Intn(200) {
			if r.Intn(12) == 0 {
				l = append(l, told(byte(r.Intn(256)), 0))
			} else {
				l = append(l, some[r.Intn(len(some))])
			}
		}
		lasts(t, uint64(r.Intn(128)), uint64(r.Intn(3)*r.Intn(500)), l...)
	}
	c := chain.New(0, 0)
	c.Add(told(5, 0))
	c.Add(make([]chain.Item, api.MaxOps-1)...)
	if set, at := member.Last(1, c); set != 5 || at != 1 {
		t.Errorf("%b at %d of a full one", set, at)
	}
}

// P30.2

// alone tells how many numbers from 0 on are in just one of two sets.
func alone(a, b uint64) int {
	n := 0
	for k := range 64 {
		if slices.Contains(nodes(a), k) != slices.Contains(nodes(b), k) {
			n++
		}
	}
	return n
}

func TestMayOfEachTwo(t *testing.T) {
	for old := range uint64(all + 1) {
		for set := range uint64(all + 1) {
			want := set != 0 && alone(old, set) == 1
			if got := member.May(old, set); got != want {
				t.Errorf("May(%b, %b): %v", old, set, got)
			}
		}
	}
}

func TestMayOfSome(t *testing.T) {
	rows := []struct {
		old, set uint64
		want     bool
	}{
		{0, 0, false},
		{0, 1, true},
		{0, 64, true},
		{0, 3, false},
		{1, 0, false},
		{1, 1, false},
		{1, 2, false},
		{1, 3, true},
		{3, 1, true},
		{3, 2, true},
		{7, 15, true},
		{7, 31, false},
		{7, 7, false},
		{7, 14, false},
		{7, 3, true},
		{7, 1, false},
		{all, 63, true},
		{63, all, true},
		{all, all - 1, true},
		{all, 31, false},
	}
	for _, r := range rows {
		if got := member.May(r.old, r.set); got != r.want {
			t.Errorf("May(%b, %b): %v", r.old, r.set, got)
		}
	}
}

// What can't be told follows nothing, and what has other bits is that many nodes away.
func TestMayOfOtherBits(t *testing.T) {
	for _, n := range others() {
		for old := range uint64(all + 1) {
			if member.May(old, n) {
				t.Errorf("May(%b, %b)", old, n)
			}
			want := old != 0 && alone(n, old) == 1
			if got := member.May(n, old); got != want {
				t.Errorf("May(%b, %b): %v", n, old, got)
			}
		}
		if member.May(n, n) || member.May(n, n^1) || member.May(n^1<<63, n) {
			t.Errorf("what follows %b has other bits", n)
		}
	}
}

// nowhere is what is no node.
func nowhere() []int {
	return []int{math.MinInt, math.MinInt + 1, -1 << 32, -64, -63, -7, -2, -1, 7, 8, 9, 62, 63, 64, 65, 70, 128, 1 << 32, 1<<32 + 1, math.MaxInt - 1, math.MaxInt}
}

func TestTurnOfEachSet(t *testing.T) {
	for old := range uint64(all + 1) {
		for node := range 7 {
			l := nodes(old)
			if k := slices.Index(l, node); k >= 0 {
				l = slices.Delete(l, k, k+1)
			} else {
				l = append(l, node)
			}
			want, sure := set(l...), true
			if old == 0 || want == 0 {
				want, sure = 0, false
			}
			if got, ok := member.Turn(old, node); got != want || ok != sure {
				t.Errorf("Turn(%b, %d): %b, %v", old, node, got, ok)
			}
		}
		for _, node := range nowhere() {
			if got, ok := member.Turn(old, node); got != 0 || ok {
				t.Errorf("Turn(%b, %d): %b, %v", old, node, got, ok)
			}
		}
	}
}

func TestTurnOfSome(t *testing.T) {
	rows := []struct {
		old  uint64
		node int
		want uint64
		ok   bool
	}{
		{set(0, 1, 2), 3, set(0, 1, 2, 3), true},
		{set(0, 1, 2), 0, set(1, 2), true},
		{set(0, 1, 2), 2, set(0, 1), true},
		{set(0), 6, set(0, 6), true},
		{set(0, 6), 0, set(6), true},
		{set(0, 6), 6, set(0), true},
		{set(0), 0, 0, false},
		{set(6), 6, 0, false},
		{set(6), 0, set(0, 6), true},
		{all, 0, all - 1, true},
		{all, 6, 63, true},
		{63, 6, all, true},
		{0, 0, 0, false},
		{0, 3, 0, false},
		{all, 7, 0, false},
		{all, -1, 0, false},
		{1, 7, 0, false},
		{1, 64, 0, false},
	}
	for _, r := range rows {
		if got, ok := member.Turn(r.old, r.node); got != r.want || ok != r.ok {
			t.Errorf("Turn(%b, %d): %b, %v", r.old, r.node, got, ok)
		}
	}
}

func TestTurnOfOtherBits(t *testing.T) {
	for _, n := range others() {
		for node := range 64 {
			if got, ok := member.Turn(n, node); got != 0 || ok {
				t.Errorf("Turn(%b, %d): %b, %v", n, node, got, ok)
			}
		}
		for _, node := range nowhere() {
			if got, ok := member.Turn(n, node); got != 0 || ok {
				t.Errorf("Turn(%b, %d): %b, %v", n, node, got, ok)
			}
		}
	}
}

func TestTurnTellsWhatMayFollow(t *testing.T) {
	for old := range uint64(all + 1) {
		for node := range 7 {
			next, ok := member.Turn(old, node)
			if !ok {
				continue
			}
			x, tells := member.Item(next, 1)
			if back, again := member.Turn(next, node); !tells || !member.May(old, next) || !again || back != old {
				t.Errorf("Turn(%b, %d): %b, and back %b", old, node, next, back)
			}
			if of, _ := member.Of(x); of != next {
				t.Errorf("Of the item of %b: %b", next, of)
			}
		}
	}
}

// P30.3

// majorities are all sets of nodes that have more than half of a set's.
func majorities(of uint64) []uint64 {
	var l []uint64
	for n := range uint64(all + 1) {
		if n&^of == 0 && quorum.Majority(n, of) {
			l = append(l, n)
		}
	}
	return l
}

func TestMajoritiesMeet(t *testing.T) {
	by := map[uint64][]uint64{}
	for old := uint64(1); old <= all; old++ {
		by[old] = majorities(old)
	}
	pairs := 0
	for old := uint64(1); old <= all; old++ {
		for next := uint64(1); next <= all; next++ {
			if !member.May(old, next) {
				continue
			}
			pairs++
			for _, a := range by[old] {
				for _, b := range by[next] {
					if a&b == 0 {
						t.Fatalf("%b of %b, and %b of %b, have no node in common", a, old, b, next)
					}
				}
			}
		}
	}
	// each of the seven nodes may be turned in each set, but for the only one of a set
	if pairs != 7*all-7 {
		t.Errorf("%d pairs", pairs)
	}
}

// What may not follow is there for a reason: two nodes more, and two majorities may miss each other.
func TestMajoritiesMayMissEachOther(t *testing.T) {
	old, next := set(0, 1, 2), set(0, 1, 2, 3, 4)
	if member.May(old, next) || !quorum.Majority(set(0, 1), old) || !quorum.Majority(set(2, 3, 4), next) {
		t.Error("two nodes more")
	}
}
