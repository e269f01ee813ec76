package history_test

import (
	"math"
	"math/rand"
	"slices"
	"strings"
	"testing"

	"keelson/api"
	"keelson/history"
)

func spanOf(from, count uint32) api.Span {
	return api.Span{From: from, Count: count}
}

// of tells a block for each letter, of that letter; "." is noughts.
func of(letters string) string {
	out := ""
	for _, r := range letters {
		if r == '.' {
			r = 0
		}
		out += strings.Repeat(string(r), api.BlockLen)
	}
	return out
}

func op(isWrite bool, from uint32, letters string, begin, end int) api.Op {
	return api.Op{Client: 1, Write: isWrite, Span: spanOf(from, uint32(len(letters))), Data: of(letters), Begin: begin, End: end}
}

func writes(from uint32, letters string, begin, end int) api.Op {
	return op(true, from, letters, begin, end)
}

func reads(from uint32, letters string, begin, end int) api.Op {
	return op(false, from, letters, begin, end)
}

func never(o api.Op) api.Op {
	o.Never = true
	return o
}

// P24.1: Good.
func TestGood(t *testing.T) {
	fine := writes(0, "a", 1, 2)
	with := func(change func(o *api.Op)) []api.Op {
		o := fine
		change(&o)
		return []api.Op{reads(0, ".", 1, 2), o}
	}
	for _, c := range []struct {
		name   string
		l      []api.Op
		blocks uint32
		want   bool
	}{
		{"nothing", nil, 1, true},
		{"empty", []api.Op{}, 64, true},
		{"Most", slices.Repeat([]api.Op{fine}, 16), 1, true},
		{"one more", slices.Repeat([]api.Op{fine}, 17), 1, false},
		{"no blocks", []api.Op{}, 0, false},
		{"one block", []api.Op{fine}, 1, true},
		{"MaxBlocks", []api.Op{fine}, api.MaxBlocks, true},
		{"one block more", []api.Op{fine}, api.MaxBlocks + 1, false},
		{"the most blocks", nil, math.MaxUint32, false},
		{"no block", with(func(o *api.Op) { o.Span.Count, o.Data = 0, "" }), 4, false},
		{"the last block", with(func(o *api.Op) { o.Span = spanOf(3, 1) }), 4, true},
		{"one behind it", with(func(o *api.Op) { o.Span = spanOf(4, 1) }), 4, false},
		{"over the end", with(func(o *api.Op) { o.Span, o.Data = spanOf(3, 2), of("ab") }), 4, false},
		{"up to the end", with(func(o *api.Op) { o.Span, o.Data = spanOf(2, 2), of("ab") }), 4, true},
		{"the greatest span", with(func(o *api.Op) { o.Span = spanOf(math.MaxUint32, math.MaxUint32) }), 64, false},
		{"Begin -1", with(func(o *api.Op) { o.Begin = -1 }), 4, false},
		{"the least Begin", with(func(o *api.Op) { o.Begin = math.MinInt }), 4, false},
		{"Begin 0", with(func(o *api.Op) { o.Begin = 0 }), 4, true},
		{"End -1", with(func(o *api.Op) { o.End = -1 }), 4, false},
		{"End 0", with(func(o *api.Op) { o.End = 0 }), 4, true},
		{"both 0", with(func(o *api.Op) { o.Begin, o.End = 0, 0 }), 4, true},
		{"End at Begin", with(func(o *api.Op) { o.End = 1 }), 4, false},
		{"End below it", with(func(o *api.Op) { o.Begin, o.End = 5, 4 }), 4, false},
		{"End above it", with(func(o *api.Op) { o.End = math.MaxInt }), 4, true},
		{"without data", with(func(o *api.Op) { o.Data = "" }), 4, false},
		{"a byte short", with(func(o *api.Op) { o.Data = o.Data[1:] }), 4, false},
		{"a byte more", with(func(o *api.Op) { o.Data += "a" }), 4, false},
		{"a write, not answered, without data", with(func(o *api.Op) { o.End, o.Data = 0, "" }), 4, false},
		{"a write, not answered, a byte more", with(func(o *api.Op) { o.End, o.Data = 0, o.Data+"a" }), 4, false},
		{"a read, answered, without data", with(func(o *api.Op) { o.Write, o.Data = false, "" }), 4, false},
		{"a read, answered, a byte short", with(func(o *api.Op) { o.Write, o.Data = false, o.Data[1:] }), 4, false},
		{"a read, answered", with(func(o *api.Op) { o.Write = false }), 4, true},
		{"a read, not answered, without data", with(func(o *api.Op) { o.Write, o.End, o.Data = false, 0, "" }), 4, true},
		{"a read, not answered, with data", with(func(o *api.Op) { o.Write, o.End = false, 0 }), 4, true},
		{"a read, not answered, a byte short", with(func(o *api.Op) { o.Write, o.End, o.Data = false, 0, "1234567" }), 4, true},
		{"a read, not answered, of no block", with(func(o *api.Op) { o.Write, o.End, o.Span.Count = false, 0, 0 }), 4, false},
		{"one that says Never, without data", with(func(o *api.Op) { o.Never, o.Data = true, "" }), 4, false},
		{"any client", with(func(o *api.Op) { o.Client = math.MaxUint64 }), 4, true},
	} {
		if got := history.Good(c.l, c.blocks); got != c.want {
			t.Error(c.name, got)
		}
		if !c.want && history.Check(c.l, c.blocks) {
			t.Error(c.name, "can be so")
		}
	}
	if history.Most != 16 {
		t.Error(history.Most)
	}
}

// P24.1: Writes.
func TestWrites(t *testing.T) {
	w, r := writes(0, "a", 1, 2), reads(0, ".", 1, 2)
	for _, c := range []struct {
		l    []api.Op
		want int
	}{
		{nil, 0},
		{[]api.Op{}, 0},
		{[]api.Op{r, r}, 0},
		{[]api.Op{w}, 1},
		{[]api.Op{w, never(w), r, w}, 2},
		{[]api.Op{never(w), never(r)}, 0},
		{[]api.Op{writes(0, "a", 1, 0), {Write: true, Begin: -1}}, 2},
		{slices.Repeat([]api.Op{w}, 40), 40},
	} {
		if got := history.Writes(c.l); got != c.want {
			t.Error(c.l, got)
		}
	}
}

// P24.2, case by case; blocks are four.
func TestCheck(t *testing.T) {
	for _, c := range []struct {
		name string
		l    []api.Op
		want bool
	}{
		{"nothing", nil, true},
		{"reads of noughts", []api.Op{reads(0, "....", 0, 1), reads(2, "..", 0, 5)}, true},
		{"a read of others", []api.Op{reads(0, "..a.", 0, 1)}, false},
		{"the example", []api.Op{writes(0, "a", 1, 2), reads(0, ".", 3, 4)}, false},
		{"its other way", []api.Op{writes(0, "a", 1, 2), reads(0, "a", 3, 4)}, true},
		{"a read ahead", []api.Op{writes(0, "a", 3, 4), reads(0, ".", 1, 2)}, true},
		{"a read ahead, of what comes", []api.Op{writes(0, "a", 3, 4), reads(0, "a", 1, 2)}, false},
		{"at the same time", []api.Op{writes(0, "a", 1, 4), reads(0, "a", 2, 3)}, true},
		{"at the same time, of noughts", []api.Op{writes(0, "a", 1, 4), reads(0, ".", 2, 3)}, true},
		{"the write's End is the read's Begin", []api.Op{writes(0, "a", 1, 2), reads(0, ".", 2, 3)}, false},
		{"the write's End is the read's Begin and 1", []api.Op{writes(0, "a", 1, 3), reads(0, ".", 2, 4)}, true},
		{"the read's End is the write's Begin", []api.Op{writes(0, "a", 2, 3), reads(0, "a", 1, 2)}, false},
		{"the read's End is the write's Begin and 1", []api.Op{writes(0, "a", 2, 4), reads(0, "a", 1, 3)}, true},
		{"over one another in part", []api.Op{writes(0, "aa", 1, 2), writes(1, "bb", 3, 4), reads(0, "abb.", 5, 6)}, true},
		{"over one another, the other way", []api.Op{writes(0, "aa", 1, 2), writes(1, "bb", 3, 4), reads(0, "aab.", 5, 6)}, false},
		{"over one another at the same time", []api.Op{writes(0, "aa", 1, 4), writes(1, "bb", 3, 5), reads(0, "aab.", 5, 6)}, true},
		{"half of one", []api.Op{writes(0, "aa", 1, 9), reads(0, "a.", 2, 3)}, false},
		{"in two unlike orders", []api.Op{writes(0, "a", 1, 9), writes(1, "b", 1, 9), reads(0, "a.", 2, 3), reads(0, ".b", 2, 3)}, false},
		{"in two unlike orders, of one block", []api.Op{writes(0, "a", 1, 9), writes(0, "b", 1, 9), reads(0, "a", 1, 9), reads(0, "b", 1, 9), reads(0, "a", 9, 10), reads(0, "b", 10, 11)}, false},
		{"one order, of one block", []api.Op{writes(0, "a", 1, 9), writes(0, "b", 1, 9), reads(0, "b", 1, 9), reads(0, "a", 9, 10), reads(0, "a", 10, 11)}, true},
		{"back to what was", []api.Op{writes(0, "a", 1, 9), writes(0, "b", 1, 9), reads(0, "a", 1, 2), reads(0, "b", 2, 3), reads(0, "a", 3, 4)}, false},
		{"back by a third one", []api.Op{writes(0, "a", 1, 9), writes(0, "b", 1, 9), writes(0, "a", 1, 9), reads(0, "a", 1, 2), reads(0, "b", 2, 3), reads(0, "a", 3, 4)}, true},
		{"not answered, told", []api.Op{writes(0, "a", 1, 0), reads(0, "a", 3, 4)}, true},
		{"not answered, told by nobody", []api.Op{writes(0, "a", 1, 0), reads(0, ".", 3, 4)}, true},
		{"not answered, told late", []api.Op{writes(0, "a", 1, 0), reads(0, ".", 3, 4), reads(0, "a", 900, 901)}, true},
		{"not answered, and gone again", []api.Op{writes(0, "a", 1, 0), reads(0, "a", 3, 4), reads(0, ".", 5, 6)}, false},
		{"not answered, told ahead of its Begin", []api.Op{writes(0, "a", 5, 0), reads(0, "a", 3, 4)}, false},
		{"not answered, told up to its Begin", []api.Op{writes(0, "a", 4, 0), reads(0, "a", 3, 4)}, false},
		{"not answered, told from its Begin on", []api.Op{writes(0, "a", 4, 0), reads(0, "a", 3, 5)}, true},
		{"not answered, behind one that it must be behind", []api.Op{writes(0, "a", 5, 0), writes(0, "b", 1, 5), reads(0, "a", 6, 7), reads(0, "b", 8, 9)}, false},
		{"not answered, from 0 on", []api.Op{writes(0, "a", 0, 0), writes(0, "b", 0, 1), reads(0, "b", 1, 2), reads(0, "a", 2, 3)}, true},
		{"Never, told", []api.Op{never(writes(0, "a", 1, 0)), reads(0, "a", 3, 4)}, false},
		{"Never, told by nobody", []api.Op{never(writes(0, "a", 1, 0)), reads(0, ".", 3, 4)}, true},
		{"Never, answered, told", []api.Op{never(writes(0, "a", 1, 2)), reads(0, "a", 3, 4)}, false},
		{"Never, answered, told by nobody", []api.Op{never(writes(0, "a", 1, 2)), reads(0, ".", 3, 4)}, true},
		{"Never, but another one", []api.Op{never(writes(0, "a", 1, 2)), writes(0, "a", 1, 0), reads(0, "a", 3, 4)}, true},
		{"a read that says Never", []api.Op{never(reads(0, "x", 3, 4))}, true},
		{"a read that was not answered", []api.Op{reads(0, "x", 3, 0)}, true},
		{"what the others order", []api.Op{writes(0, "a", 1, 2), reads(1, ".", 2, 3), reads(0, ".", 3, 4)}, false},
		{"the last time", []api.Op{writes(0, "a", math.MaxInt-2, math.MaxInt-1), reads(0, ".", math.MaxInt-1, math.MaxInt)}, false},
		{"both of a wide one", []api.Op{writes(0, "abcd", 1, 2), reads(3, "d", 2, 3), reads(1, "bc", 2, 3)}, true},
		{"one order leads no farther, another one does", []api.Op{writes(0, "a", 1, 3), writes(0, "b", 1, 3), writes(0, "ac", 3, 9), writes(0, "de", 3, 9), writes(1, ".", 3, 9), writes(2, "y", 3, 9), reads(0, "a.y", 3, 9), reads(0, "d.", 3, 9)}, true},
		{"that other one can't be", []api.Op{writes(0, "a", 1, 2), writes(0, "b", 2, 3), writes(0, "ac", 3, 9), writes(0, "de", 3, 9), writes(1, ".", 3, 9), writes(2, "y", 3, 9), reads(0, "a.y", 3, 9), reads(0, "d.", 3, 9)}, false},
		{"shifted", []api.Op{writes(0, "abcd", 1, 2), reads(1, "ab", 2, 3)}, false},
	} {
		before := slices.Clone(c.l)
		if got := history.Check(c.l, 4); got != c.want {
			t.Error(c.name, got)
		}
		back := slices.Clone(c.l)
		slices.Reverse(back)
		if got := history.Check(back, 4); got != c.want {
			t.Error(c.name, "from behind", got)
		}
		if !slices.Equal(c.l, before) {
			t.Error(c.name, "is changed")
		}
	}
}

// canBe tells whether it can be so by going through all orders of each choice.
func canBe(l []api.Op, blocks uint32) bool {
	var must, may []api.Op
	for _, o := range l {
		switch {
		case o.Never || !o.Write && o.End == 0:
		case o.End == 0:
			may = append(may, o)
		default:
			must = append(must, o)
		}
	}
	for choice := range 1 << len(may) {
		ops := slices.Clone(must)
		for k, o := range may {
			if choice&(1<<k) != 0 {
				ops = append(ops, o)
			}
		}
		if orders(nil, ops, blocks) {
			return true
		}
	}
	return false
}

func orders(ahead, left []api.Op, blocks uint32) bool {
	if len(left) == 0 {
		return isSo(ahead, blocks)
	}
	for k, o := range left {
		others := slices.Delete(slices.Clone(left), k, k+1)
		if orders(append(slices.Clone(ahead), o), others, blocks) {
			return true
		}
	}
	return false
}

func isSo(l []api.Op, blocks uint32) bool {
	disk := make([]byte, int(blocks)*api.BlockLen)
	for k, o := range l {
		for _, x := range l[:k] {
			if o.End != 0 && o.End <= x.Begin {
				return false
			}
		}
		at := disk[int(o.Span.From)*api.BlockLen:][:len(o.Data)]
		if o.Write {
			copy(at, o.Data)
		} else if string(at) != o.Data {
			return false
		}
	}
	return true
}

// some tells a history of a few letters, some of which can be so.
func some(g *rand.Rand, most int, blocks uint32) []api.Op {
	var l []api.Op
	last := 2 + g.Intn(8)
	for range g.Intn(most + 1) {
		from := uint32(g.Intn(int(blocks)))
		letters := ""
		for range 1 + g.Intn(int(blocks-from)) {
			letters += string("ab."[g.Intn(3)])
		}
		o := op(g.Intn(2) == 0, from, letters, g.Intn(last), 0)
		if g.Intn(4) > 0 {
			o.End = o.Begin + 1 + g.Intn(last)
		}
		o.Never = g.Intn(12) == 0
		l = append(l, o)
	}
	return l
}

// P24.2, against all orders.
func TestCheckAsTold(t *testing.T) {
	g := rand.New(rand.NewSource(242))
	can := 0
	for range 30000 {
		blocks := uint32(1 + g.Intn(3))
		l := some(g, 6, blocks)
		want := canBe(l, blocks)
		if got := history.Check(l, blocks); got != want {
			t.Fatal(l, blocks, got)
		}
		if want && len(l) > 3 {
			can++
		}
	}
	if can < 1000 {
		t.Error("too few can be so", can)
	}
}

// lived tells a history that was so: each has its moment, and is asked ahead of it, and answered behind.
func lived(g *rand.Rand, n int, blocks uint32) []api.Op {
	disk := make([]byte, int(blocks)*api.BlockLen)
	var l []api.Op
	for k := range n {
		from := uint32(g.Intn(int(blocks)))
		s := spanOf(from, 1+uint32(g.Intn(int(blocks-from))))
		at := disk[int(from)*api.BlockLen:][:int(s.Count)*api.BlockLen]
		o := api.Op{Client: uint64(k), Write: g.Intn(2) == 0, Span: s, Begin: max(0, 2*k-g.Intn(9)), End: 2*k + 1 + g.Intn(9)}
		if o.Write {
			for i := range at {
				at[i] = "abc."[g.Intn(4)]
			}
		}
		o.Data = string(at)
		if g.Intn(6) == 0 {
			o.End = 0
		}
		l = append(l, o)
	}
	g.Shuffle(n, func(i, j int) { l[i], l[j] = l[j], l[i] })
	return l
}

// P24.2, P24.3: what was so can be so; without a read, and with one that was not answered, too.
func TestCheckWhatWasSo(t *testing.T) {
	g := rand.New(rand.NewSource(243))
	for range 3000 {
		blocks := []uint32{1, 3, 8, 64}[g.Intn(4)]
		l := lived(g, 2+g.Intn(14), blocks)
		if !history.Check(l, blocks) {
			t.Fatal(l, blocks)
		}
		asked := reads(0, "x", g.Intn(20), 0)
		if !history.Check(append(slices.Clone(l), asked), blocks) {
			t.Fatal("with one that was not answered", l)
		}
		asked.Data = ""
		if !history.Check(append(slices.Clone(l), asked), blocks) {
			t.Fatal("with one that was not answered, without data", l)
		}
		for k, o := range l {
			if !o.Write && !history.Check(slices.Delete(slices.Clone(l), k, k+1), blocks) {
				t.Fatal("without a read", k, l)
			}
		}
	}
}

// P24.3, of such as can't be so, too: a read more makes nothing possible that wasn't.
func TestCheckWithoutARead(t *testing.T) {
	g := rand.New(rand.NewSource(244))
	for range 20000 {
		blocks := uint32(1 + g.Intn(3))
		l := some(g, 9, blocks)
		if !history.Check(l, blocks) {
			continue
		}
		for k, o := range l {
			if !o.Write && !history.Check(slices.Delete(slices.Clone(l), k, k+1), blocks) {
				t.Fatal("without a read", k, l)
			}
		}
		if !history.Check(append(l, reads(0, "x", g.Intn(9), 0)), blocks) {
			t.Fatal("with one that was not answered", l)
		}
	}
}

// P24.2: Most at the same time.
func TestCheckOfMost(t *testing.T) {
	var can, cannot []api.Op
	for k := range 8 {
		letter := string(rune('a' + k))
		can = append(can, writes(0, letter, 1, 99), reads(0, letter, 1+8*k, 9+8*k))
		cannot = append(cannot, writes(0, letter, 1, 99), reads(0, letter, 1, 99))
	}
	if !history.Check(can, 1) {
		t.Error("eight writes, and each told in its turn")
	}
	if !history.Check(cannot, 1) {
		t.Error("eight writes, and each told at some time")
	}
	cannot[15] = reads(0, "aaaaaaaa", 1, 99)
	cannot[13] = reads(0, "bbbbbbbb", 1, 99)
	if history.Check(cannot, 8) {
		t.Error("what nobody writes")
	}
	var wide []api.Op // fifteen that lie over one another, and a read of what they can't come to
	for k := range 15 {
		wide = append(wide, writes(uint32(k), strings.Repeat(string(rune('a'+k%2)), 16), 1, 99))
	}
	tells := "." + strings.Repeat("ab", 14) + "a"
	if history.Check(append(wide, reads(0, tells, 1, 99)), 30) {
		t.Error("fifteen that can't be so")
	}
	if !history.Check(append(wide, reads(0, strings.Repeat("a", 16)+strings.Repeat("ba", 7), 99, 100)), 30) {
		t.Error("fifteen that can be so")
	}
	orders := [][]api.Op{nil, nil} // two reads, which tell of two writes in unlike orders, and in the same one
	for k := range 7 {
		for i := range orders {
			orders[i] = append(orders[i], writes(uint32(k), "a", 1, 99), writes(uint32(k)+8, "b", 1, 99))
		}
	}
	orders[0] = append(orders[0], reads(0, "a......."+".bbbbbb.", 1, 99), reads(0, "aaaaaaa."+"b.......", 1, 99))
	orders[1] = append(orders[1], reads(0, "a......."+".bb.....", 1, 99), reads(0, "aaaaaaa."+".bbbbbb.", 1, 99))
	if history.Check(orders[0], 16) || !history.Check(orders[1], 16) {
		t.Error("two reads of fourteen writes")
	}
}
