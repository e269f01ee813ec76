package order_test

import (
	"math"
	"math/rand"
	"slices"
	"strings"
	"testing"

	"keelson/api"
	"keelson/behind"
	"keelson/done"
	"keelson/entry"
	"keelson/image"
	"keelson/marks"
	"keelson/order"
)

const (
	greatest = math.MaxUint64
	limit    = api.MaxIndex - api.MaxMarks // the greatest number that may be marked
)

func spanOf(from, count uint32) api.Span {
	return api.Span{From: from, Count: count}
}

func of(low, bits uint64) api.Marks {
	return api.Marks{Low: low, Bits: bits}
}

// writes is a write of the request that its index numbers, of some blocks, which have its letter.
func writes(index uint64, s api.Span, looks ...api.Look) api.Entry {
	data := strings.Repeat(string(rune('a'+index%26)), int(s.Count)*api.BlockLen)
	return api.Entry{Index: index, Term: 2, Start: 1, Kind: api.KindWrite, Client: 1 + index%8, Req: index, Span: s, Data: data, Behind: looks}
}

// at is looks at writes of one block each, the last one first.
func at(blocks ...uint32) []api.Look {
	var l []api.Look
	for _, b := range blocks {
		l = append(l, api.Look{Client: 1, Req: 9, Span: spanOf(b, 1)})
	}
	return l
}

// far is n looks at the block 50, or at nothing.
func far(n int) []api.Look {
	l := make([]api.Look, n)
	for k := range l {
		if k%2 == 0 {
			l[k] = at(50)[0]
		}
	}
	return l
}

// set is what is marked, as the tests tell it: all up to low, and some above it.
type set struct {
	low  uint64
	more map[uint64]bool
}

func setOf(m api.Marks) set {
	s := set{m.Low, map[uint64]bool{}}
	bit := uint64(1)
	for k := range uint64(64) {
		if m.Bits&bit != 0 {
			s.more[m.Low+1+k] = true
		}
		bit += bit
	}
	return s
}

func (s set) has(n uint64) bool {
	return n <= s.low || s.more[n]
}

// room tells whether n may be marked: not more than 64 above all that are marked without a hole.
func (s set) room(n uint64) bool {
	low := s.low
	for s.more[low+1] {
		low++
	}
	return n <= limit && n <= low+64
}

// marks tells the good Marks of it.
func (s set) marks() api.Marks {
	m := of(s.low, 0)
	for s.more[m.Low+1] {
		m.Low++
	}
	for k := range uint64(64) {
		if s.more[m.Low+1+k] {
			m.Bits |= 1 << k
		}
	}
	return m
}

// someMarks tells good ones near low.
func someMarks(g *rand.Rand, low uint64) api.Marks {
	s := set{low, map[uint64]bool{}}
	for range g.Intn(9) {
		s.more[low+1+uint64(g.Intn(1+g.Intn(20)))] = true
	}
	return s.marks()
}

// meet tells whether two spans have a block in common, block by block.
func meet(a, b api.Span) bool {
	for x := range uint64(a.Count) {
		for y := range uint64(b.Count) {
			if uint64(a.From)+x == uint64(b.From)+y {
				return true
			}
		}
	}
	return false
}

// waits tells whether e must wait for an index ahead of it.
func waits(e api.Entry, index uint64) bool {
	for k, l := range e.Behind {
		if e.Index == index+1+uint64(k) {
			return meet(l.Span, e.Span)
		}
	}
	return true
}

// may tells whether e may be done, index by index.
func may(e api.Entry, s set) bool {
	for index := uint64(1); index < e.Index; index++ {
		if !s.has(index) && waits(e, index) {
			return false
		}
	}
	return true
}

// ready tells it word by word: the first one of each index alone counts, the least one is told, again and again.
func ready(l []api.Entry, which, had api.Marks) []uint64 {
	s := setOf(had)
	var out []uint64
	for {
		best := -1
		for i, e := range l {
			first := slices.IndexFunc(l, func(x api.Entry) bool { return x.Index == e.Index })
			if first != i || !setOf(which).has(e.Index) || s.has(e.Index) || !may(e, s) || !s.room(e.Index) {
				continue
			}
			if best < 0 || e.Index < l[best].Index {
				best = i
			}
		}
		if best < 0 {
			return out
		}
		s.more[l[best].Index] = true
		out = append(out, l[best].Index)
	}
}

func mays(t *testing.T, what string, e api.Entry, m api.Marks, want bool) {
	t.Helper()
	if got := order.May(e, m); got != want {
		t.Errorf("%s: May of %d, looking behind at %d, with %+v: %v", what, e.Index, len(e.Behind), m, got)
	}
}

func readies(t *testing.T, what string, l []api.Entry, which, had api.Marks, want ...uint64) {
	t.Helper()
	if got := order.Ready(l, which, had); !slices.Equal(got, want) {
		t.Errorf("%s: Ready: %v, not %v", what, got, want)
	}
}

// copied tells the same entries in memory of their own.
func copied(l []api.Entry) []api.Entry {
	var out []api.Entry
	for _, e := range l {
		out = append(out, entry.Copy(e))
	}
	return out
}

func same(t *testing.T, what string, got, want []api.Entry) {
	t.Helper()
	if !slices.EqualFunc(got, want, entry.Same) {
		t.Errorf("%s: %+v, not %+v", what, got, want)
	}
}

// P22.1

func TestMayOfTheFirst(t *testing.T) {
	for _, m := range []api.Marks{{}, of(0, 2), of(0, greatest-1), of(1, 0), of(1, 2), of(9, 0), of(limit, 0), of(greatest, 0)} {
		for _, looks := range [][]api.Look{nil, at(3), far(64)} {
			mays(t, "nothing is ahead of it", writes(0, spanOf(3, 1), looks...), m, true)
			mays(t, "nothing is ahead of it", writes(1, spanOf(3, 1), looks...), m, true)
		}
	}
}

func TestMayWithNothingDone(t *testing.T) {
	none := api.Marks{}
	mays(t, "nothing said", writes(2, spanOf(3, 1)), none, false)
	mays(t, "another block", writes(2, spanOf(3, 1), at(4)...), none, true)
	mays(t, "the same block", writes(2, spanOf(3, 1), at(3)...), none, false)
	mays(t, "a noop ahead", writes(2, spanOf(3, 1), api.Look{}), none, true)
	mays(t, "a noop", entry.Noop(2, 1, 1), none, false)
	noop := entry.Noop(2, 1, 1)
	noop.Behind = at(3)
	mays(t, "a noop that looks behind", noop, none, true)
	mays(t, "two others", writes(3, spanOf(3, 1), at(4, 2)...), none, true)
	mays(t, "the second one is the same", writes(3, spanOf(3, 1), at(4, 3)...), none, false)
	mays(t, "the first one is the same", writes(3, spanOf(3, 1), at(3, 4)...), none, false)
	mays(t, "one alone is told of", writes(3, spanOf(3, 1), at(4)...), none, false)
	mays(t, "as many as may be", writes(65, spanOf(3, 1), far(64)...), none, true)
	mays(t, "one more than may be", writes(66, spanOf(3, 1), far(64)...), none, false)
}

func TestMayWithAllDone(t *testing.T) {
	for _, index := range []uint64{1, 2, 3, 64, 65, 66, 1 << 32, limit - 64, limit, limit + 1} {
		for _, looks := range [][]api.Look{nil, at(3), far(64)} {
			e := writes(index, spanOf(3, 1), looks...)
			mays(t, "all below it", e, of(index-1, 0), true)
			mays(t, "itself too", e, of(index, 0), true)
			mays(t, "more too", e, of(index-1, 6), true)
		}
	}
	mays(t, "all but the last one", writes(9, spanOf(3, 1)), of(7, 0), false)
	mays(t, "all but the last one, which is told of", writes(9, spanOf(3, 1), at(2)...), of(7, 0), true)
	mays(t, "all but the last one, which clashes", writes(9, spanOf(3, 1), at(3)...), of(7, 0), false)
}

func TestMayWithAHole(t *testing.T) {
	hole := of(5, 2+4+8) // 1 to 5, 7 to 9; 6 is not done
	e := func(looks ...api.Look) api.Entry { return writes(10, spanOf(3, 2), looks...) }
	mays(t, "nothing said of it", e(), hole, false)
	mays(t, "all behind it told of", e(at(3, 3, 3)...), hole, false)
	mays(t, "it is another block", e(at(3, 3, 3, 5)...), hole, true)
	mays(t, "it is the block ahead", e(at(3, 3, 3, 2)...), hole, true)
	mays(t, "it is one of its blocks", e(at(8, 8, 8, 4)...), hole, false)
	mays(t, "it is a noop", e(append(at(3, 3, 3), api.Look{})...), hole, true)
	mays(t, "it clashes with what is done below the hole", e(at(3, 3, 3, 5, 4, 3, 4)...), hole, true)
	two := of(5, 2+8) // 6 and 8 are not done
	mays(t, "both are others", e(at(3, 7, 3, 7)...), two, true)
	mays(t, "the greater one clashes", e(at(3, 4, 3, 7)...), two, false)
	mays(t, "the lesser one clashes", e(at(3, 7, 3, 4)...), two, false)
	mays(t, "nothing is said of the lesser one", e(at(3, 7, 3)...), two, false)
	last := of(2, 1<<63|2) // 4 and 66
	mays(t, "done 64 above", writes(67, spanOf(3, 1), far(64)...), last, true)
	mays(t, "a hole out of sight", writes(68, spanOf(3, 1), far(64)...), last, false)
}

// An index from 1 on alone is asked for: whoever says something of 0 does not wait for that.
func TestMayOfOneThatSaysMoreThanThereIs(t *testing.T) {
	for index := range uint64(5) {
		looks := make([]api.Look, 9)
		for k := range looks {
			if uint64(k)+1 >= index {
				looks[k] = at(3)[0]
			}
		}
		mays(t, "more looks than there are entries", writes(index, spanOf(3, 1), looks...), api.Marks{}, true)
	}
}

func TestMayOfTheGreatest(t *testing.T) {
	for _, index := range []uint64{1 << 40, limit, limit + 1, api.MaxIndex, 1 << 63, greatest - 1, greatest} {
		e := writes(index, spanOf(3, 1), far(64)...)
		for _, m := range []api.Marks{{}, of(0, greatest-1), of(7, 2), of(index-67, 0), of(index-66, 0), of(index-65, 0), of(index-65, 2), of(index-2, 0), of(index-1, 0)} {
			if m.Low > limit {
				continue
			}
			mays(t, "a great one", e, m, m.Low >= index-65)
		}
	}
	mays(t, "the greatest that may be marked", writes(limit+1, spanOf(3, 1)), of(limit, 0), true)
	mays(t, "the one behind it", writes(limit+2, spanOf(3, 1)), of(limit, 0), false)
	mays(t, "the one behind it, which looks", writes(limit+2, spanOf(3, 1), at(4)...), of(limit, 0), true)
}

// Marks that are not good are asked likewise: it ends, and each index is done or not.
func TestMayOfMarksThatAreNotGood(t *testing.T) {
	mays(t, "all numbers", writes(greatest, spanOf(3, 1)), of(greatest, 0), true)
	mays(t, "all numbers", writes(greatest, spanOf(3, 1)), of(greatest, greatest), true)
	mays(t, "all but one", writes(greatest, spanOf(3, 1)), of(greatest-2, 0), false)
	mays(t, "all but one", writes(greatest, spanOf(3, 1), at(4)...), of(greatest-2, 0), true)
	mays(t, "all below", writes(greatest, spanOf(3, 1)), of(greatest-2, 1), true)
	mays(t, "some below", writes(greatest, spanOf(3, 1)), of(greatest-3, 1), false)
	mays(t, "bits that Low should have", writes(4, spanOf(3, 1)), of(0, 7), true)
	mays(t, "bits that Low should have", writes(5, spanOf(3, 1)), of(0, 7), false)
	mays(t, "bits that Low should have", writes(greatest, spanOf(3, 1)), of(0, greatest), false)
	mays(t, "nothing ahead", writes(0, spanOf(3, 1)), of(greatest, greatest), true)
}

func TestMayOfMany(t *testing.T) {
	g := rand.New(rand.NewSource(22))
	yes := 0
	for range 30000 {
		e := writes(uint64(g.Intn(30)), spanOf(uint32(g.Intn(5)), 1+uint32(g.Intn(2))))
		for range g.Intn(12) {
			l := api.Look{Client: 1, Req: 1, Span: spanOf(uint32(g.Intn(8)), uint32(g.Intn(3)))}
			e.Behind = append(e.Behind, l)
		}
		m := someMarks(g, uint64(g.Intn(20)))
		want := may(e, setOf(m))
		mays(t, "by chance", e, m, want)
		if want {
			yes++
		}
	}
	if yes < 5000 || yes > 25000 {
		t.Errorf("%d of 30000 might be done", yes)
	}
}

func TestMayChangesNothing(t *testing.T) {
	e := writes(9, spanOf(3, 1), far(5)...)
	kept := entry.Copy(e)
	spare := slices.Grow(e.Behind, 3)
	e.Behind = spare
	order.May(e, of(2, 4))
	order.Ready([]api.Entry{e}, of(99, 0), of(2, 4))
	if !entry.Same(e, kept) || spare[:8][7] != (api.Look{}) {
		t.Errorf("%+v", e)
	}
}

func TestReadyOfNone(t *testing.T) {
	one := []api.Entry{writes(1, spanOf(0, 1))}
	for _, m := range []api.Marks{{}, of(5, 2), of(limit, 0)} {
		for _, l := range [][]api.Entry{nil, {}, one[:0]} {
			readies(t, "none", l, of(99, 0), m)
		}
	}
}

func TestReadyOfOne(t *testing.T) {
	e := writes(4, spanOf(3, 1), at(2)...)
	rows := []struct {
		what       string
		which, had api.Marks
		want       []uint64
	}{
		{"all ahead is done", of(9, 0), of(3, 0), []uint64{4}},
		{"one is not, and is another block", of(9, 0), of(2, 0), []uint64{4}},
		{"one is not of which nothing is said", of(9, 0), of(1, 0), nil},
		{"a hole of which nothing is said", of(9, 0), of(1, 2), nil},
		{"it is done", of(9, 0), of(4, 0), nil},
		{"it is done, above a hole", of(9, 0), of(2, 2), nil},
		{"more is done", of(9, 0), of(7, 0), nil},
		{"just it may be", of(4, 0), of(3, 0), []uint64{4}},
		{"it may not be", of(3, 0), of(3, 0), nil},
		{"it may be, above a hole", of(2, 2), of(3, 0), []uint64{4}},
		{"others may be, above a hole", of(2, 4), of(3, 0), nil},
		{"nothing may be", api.Marks{}, of(3, 0), nil},
	}
	for _, r := range rows {
		readies(t, r.what, []api.Entry{e}, r.which, r.had, r.want...)
	}
	readies(t, "the number 0", []api.Entry{writes(0, spanOf(3, 1))}, of(9, 0), api.Marks{})
	readies(t, "the first one", []api.Entry{writes(1, spanOf(3, 1))}, of(9, 0), api.Marks{}, 1)
}

func TestReadyOfTheExample(t *testing.T) {
	l := []api.Entry{writes(1, spanOf(0, 1)), writes(2, spanOf(0, 1), at(0)...), writes(3, spanOf(1, 1), at(0, 0)...)}
	readies(t, "the first one is not there", l[1:], of(3, 0), api.Marks{}, 3)
	readies(t, "the first one is there", l, of(3, 0), api.Marks{}, 1, 2, 3)
	readies(t, "the second one is not there", []api.Entry{l[2], l[0]}, of(3, 0), api.Marks{}, 1, 3)
	readies(t, "the first one alone may be", l, of(1, 0), api.Marks{}, 1)
	readies(t, "the first one may not be", l, of(0, 6), api.Marks{}, 3)
}

func TestReadyOfTheSameIndex(t *testing.T) {
	clash, fine := writes(2, spanOf(3, 1), at(3)...), writes(2, spanOf(3, 1), at(4)...)
	readies(t, "the first one clashes", []api.Entry{clash, fine, fine}, of(9, 0), api.Marks{})
	readies(t, "the second one clashes", []api.Entry{fine, clash, clash}, of(9, 0), api.Marks{}, 2)
	readies(t, "told once", []api.Entry{fine, fine, fine}, of(9, 0), api.Marks{}, 2)
	other := writes(1, spanOf(3, 1))
	readies(t, "the first one waits for one behind it", []api.Entry{clash, fine, other, other}, of(9, 0), api.Marks{}, 1, 2)
}

func TestReadyOneBehindTheOther(t *testing.T) {
	var l []api.Entry
	for index := uint64(1); index <= 9; index++ {
		l = append(l, writes(index, spanOf(3, 1))) // each waits for all ahead of it
	}
	slices.Reverse(l)
	readies(t, "falling", l, of(9, 0), api.Marks{}, 1, 2, 3, 4, 5, 6, 7, 8, 9)
	readies(t, "some are done", l, of(9, 0), of(2, 4+8), 3, 4, 7, 8, 9)
	readies(t, "some may be", l, of(2, 2+4), api.Marks{}, 1, 2)
	readies(t, "some may be, behind one that is done", l, of(2, 2+4), of(0, 4), 1, 2, 4, 5)
	readies(t, "the rest may be", l, of(2, 2+4), of(3, 0), 4, 5)
}

func TestReadyWithoutRoom(t *testing.T) {
	for _, low := range []uint64{0, 5, 1 << 40, limit - 66} {
		first, last, beyond := low+1, low+64, low+65
		l := []api.Entry{writes(beyond, spanOf(3, 1), far(64)...)}
		mays(t, "one beyond", l[0], of(low, 0), true)
		readies(t, "one beyond", l, of(beyond, 0), of(low, 0))
		l = append(l, writes(last, spanOf(3, 1), far(63)...))
		readies(t, "the last one that has room", l, of(beyond, 0), of(low, 0), last)
		readies(t, "the last one, done", l, of(beyond, 0), of(low, 1<<63))
		l = append(l, writes(first, spanOf(3, 1)))
		readies(t, "the first one", l, of(beyond, 0), of(low, 0), first, last, beyond)
		readies(t, "the first one may not be", l, of(low, 1<<63), of(low, 0), last)
		readies(t, "the first one is done", l, of(beyond, 0), of(first, 0), last, beyond)
	}
}

func TestReadyUpToTheLimit(t *testing.T) {
	l := []api.Entry{writes(limit-1, spanOf(3, 1)), writes(limit, spanOf(3, 1)), writes(limit+1, spanOf(3, 1)), writes(greatest, spanOf(3, 1))}
	readies(t, "at the limit", l, of(limit, 0), of(limit-2, 0), limit-1, limit)
	readies(t, "at the limit, with more that may be", l, of(greatest, 0), of(limit-2, 0), limit-1, limit)
	readies(t, "all is done", l, of(greatest, 0), of(limit, 0))
}

func TestReadyOfMarksThatAreNotGood(t *testing.T) {
	l := []api.Entry{writes(0, spanOf(3, 1)), writes(1, spanOf(3, 1)), writes(40, spanOf(3, 1)), writes(greatest, spanOf(3, 1))}
	for _, low := range []uint64{greatest, greatest - 1, greatest - 63, greatest - 64, api.MaxIndex, limit + 1} {
		for _, bits := range []uint64{0, 1, greatest} {
			readies(t, "too much is done", l, of(greatest, greatest), of(low, bits))
		}
	}
	readies(t, "bits that Low should have", l, of(greatest, 0), of(37, 3), 40)
}

func TestReadyOfALongLog(t *testing.T) {
	var l []api.Entry
	var want []uint64
	for index := uint64(1); index <= 20000; index++ {
		l = append(l, writes(index, spanOf(3, 1)))
		want = append(want, index)
	}
	readies(t, "a long log", l, of(20000, 0), api.Marks{}, want...)
	slices.Reverse(l)
	readies(t, "a long log, falling", l, of(19999, 0), of(19000, 0), want[19000:19999]...)
}

func TestReadyOfMany(t *testing.T) {
	g := rand.New(rand.NewSource(23))
	told, apart := 0, 0
	for range 8000 {
		base := uint64(g.Intn(4) * 9)
		var l []api.Entry
		for range g.Intn(14) {
			e := writes(base+uint64(g.Intn(14)), spanOf(uint32(g.Intn(4)), 1+uint32(g.Intn(2))))
			for range g.Intn(9) {
				e.Behind = append(e.Behind, api.Look{Client: 1, Req: 1, Span: spanOf(uint32(g.Intn(9)), uint32(g.Intn(2)))})
			}
			l = append(l, e)
		}
		which, had := someMarks(g, base+uint64(g.Intn(9))), someMarks(g, base+uint64(g.Intn(4)))
		want := ready(l, which, had)
		readies(t, "by chance", l, which, had, want...)
		told += len(want)
		for k := range want {
			if k > 0 && want[k] != want[k-1]+1 {
				apart++
			}
		}
	}
	if told < 5000 || apart < 500 {
		t.Errorf("only %d were told, %d of them apart", told, apart)
	}
}

func TestReadyLeavesTheList(t *testing.T) {
	l := []api.Entry{writes(3, spanOf(1, 1), at(0, 0)...), writes(1, spanOf(0, 1)), writes(1, spanOf(2, 1)), writes(2, spanOf(0, 1), at(0)...), writes(4, spanOf(9, 1))}
	kept := copied(l)
	got := order.Ready(l[:4], of(9, 0), api.Marks{})
	if !slices.Equal(got, []uint64{1, 2, 3}) {
		t.Errorf("%v: what lies behind the list was read", got)
	}
	same(t, "behind Ready", l, kept)
}

// P22.2

// four is an image of four blocks behind the indices 1 to 3, and 5.
func four() image.Image {
	t, _ := done.Add(done.Table{}, 2, 7)
	return image.Image{Marks: of(3, 2), Blocks: "00000000111111112222222233333333", Done: t}
}

func does(t *testing.T, what string, i image.Image, e api.Entry, want image.Image, wrong api.Errno) {
	t.Helper()
	kept := entry.Copy(e)
	e.Behind = slices.Grow(e.Behind, 2)
	got, err := order.Do(i, e)
	if got != want || err != wrong {
		t.Errorf("%s: %+v, %d, not %+v, %d", what, got, int(err), want, int(wrong))
	}
	if n := len(e.Behind); !entry.Same(e, kept) || e.Behind[:n+2][n+1] != (api.Look{}) {
		t.Errorf("%s: the entry came to be %+v", what, e)
	}
}

// refuses is that Do tells an error, and the image as it was.
func refuses(t *testing.T, what string, i image.Image, e api.Entry, wrong api.Errno) {
	t.Helper()
	does(t, what, i, e, i, wrong)
}

func TestDoAWrite(t *testing.T) {
	e := writes(4, spanOf(1, 2), at(3, 1)...)
	e.Client, e.Req = 3, 5
	want := image.Image{Marks: of(5, 0), Blocks: "00000000eeeeeeeeeeeeeeee33333333", Done: four().Done}
	want.Done[2] = done.Client{Top: 5, Bits: 1}
	does(t, "a write", four(), e, want, api.OK)
	e.Index, want.Marks, want.Done[2] = 67, of(3, 2|1<<63), done.Client{Top: 5, Bits: 1}
	does(t, "the last one that has room", four(), e, want, api.OK)
	e.Index, want.Marks = 9, of(3, 2|32)
	e.Client, e.Req = 2, 5 // the request 7 was done ahead of it
	want.Done = four().Done
	want.Done[1] = done.Client{Top: 7, Bits: 1 | 4}
	does(t, "an earlier request", four(), e, want, api.OK)
}

func TestDoOfEachBlock(t *testing.T) {
	for from := range uint32(6) {
		for count := range uint32(6) {
			e := writes(4, spanOf(from, count))
			if count == 0 || from+count > 4 {
				refuses(t, "no blocks of it", four(), e, api.ErrRange)
				continue
			}
			want := four()
			want.Marks = of(5, 0)
			want.Done[4] = done.Client{Top: 4, Bits: 1}
			want.Blocks = want.Blocks[:8*from] + strings.Repeat("e", int(8*count)) + want.Blocks[8*(from+count):]
			does(t, "some blocks", four(), e, want, api.OK)
		}
	}
}

func TestDoOthers(t *testing.T) {
	want := four()
	want.Marks = of(5, 0)
	does(t, "a noop", four(), entry.Noop(4, 2, 1), want, api.OK)
	for _, kind := range []int{math.MinInt, -1, 0, api.KindNoop, 3, 257, math.MaxInt} {
		for _, e := range []api.Entry{writes(4, spanOf(1, 2)), writes(4, spanOf(9, 2)), {Index: 4}, {Index: 4, Span: spanOf(1, 1), Data: "x", Client: 9}} {
			e.Kind = kind // what it has of a write is nothing to it
			does(t, "no write", four(), e, want, api.OK)
		}
	}
}

func TestDoWhatIsDone(t *testing.T) {
	for _, index := range []uint64{0, 1, 2, 3, 5} {
		for _, e := range []api.Entry{writes(index, spanOf(1, 2)), writes(index, spanOf(9, 2)), entry.Noop(index, 2, 1), {Index: index}} {
			refuses(t, "its index is done", four(), e, api.ErrThere)
		}
	}
	i := four()
	i.Marks = of(limit, 0)
	refuses(t, "its index is done", i, writes(limit, spanOf(1, 2)), api.ErrThere)
}

func TestDoWithoutRoom(t *testing.T) {
	for _, index := range []uint64{68, 69, 1 << 32, limit, limit + 1, api.MaxIndex, greatest} {
		for _, e := range []api.Entry{writes(index, spanOf(1, 2)), writes(index, spanOf(9, 2)), entry.Noop(index, 2, 1), {Index: index, Kind: api.KindWrite}} {
			refuses(t, "no room", four(), e, api.ErrRange)
		}
	}
	i := four()
	i.Marks = of(limit-1, 0)
	refuses(t, "above the limit", i, entry.Noop(limit+1, 2, 1), api.ErrRange)
	want := i
	want.Marks = of(limit, 0)
	does(t, "at the limit", i, entry.Noop(limit, 2, 1), want, api.OK)
	refuses(t, "above the limit", want, entry.Noop(limit+1, 2, 1), api.ErrRange)
}

func TestDoWhatPutRefuses(t *testing.T) {
	for _, s := range []api.Span{{}, spanOf(0, 0), spanOf(4, 1), spanOf(3, 2), spanOf(0, 5), spanOf(math.MaxUint32, 1), spanOf(1, math.MaxUint32), spanOf(math.MaxUint32, math.MaxUint32)} {
		e := writes(4, spanOf(1, 1))
		e.Span = s
		refuses(t, "no blocks of it", four(), e, api.ErrRange)
		e.Data = ""
		refuses(t, "no blocks of it, and no data", four(), e, api.ErrRange)
	}
	for _, data := range []string{"", "a", "aaaaaaa", "aaaaaaaaa", "aaaaaaaaaaaaaaaa"} {
		e := writes(4, spanOf(1, 1))
		e.Data = data
		refuses(t, "not so many data", four(), e, api.ErrArg)
	}
}

// A request that was done, or is old, or whose client there is not, leaves the table as it was; its blocks are put all the same.
func TestDoARequestThatIsNotNew(t *testing.T) {
	i := four()
	i.Done[1] = done.Client{Top: 40, Bits: 1}
	for _, x := range [][2]uint64{{2, 40}, {2, 24}, {2, 1}, {2, 0}, {0, 7}, {9, 7}, {greatest, greatest}} {
		e := writes(4, spanOf(1, 1))
		e.Client, e.Req = x[0], x[1]
		want := i
		want.Marks, want.Blocks = of(5, 0), "00000000eeeeeeee2222222233333333"
		does(t, "not a new request", i, e, want, api.OK)
	}
	e := writes(4, spanOf(1, 1))
	e.Client, e.Req = 2, 25
	want := i
	want.Marks, want.Blocks = of(5, 0), "00000000eeeeeeee2222222233333333"
	want.Done[1] = done.Client{Top: 40, Bits: 1<<15 | 1}
	does(t, "the oldest one that may be", i, e, want, api.OK)
}

func TestDoOnWhatIsNotGood(t *testing.T) {
	none := image.Image{}
	refuses(t, "no blocks", none, writes(1, spanOf(0, 1)), api.ErrRange)
	does(t, "no blocks", none, entry.Noop(1, 2, 1), image.Image{Marks: of(1, 0)}, api.OK)
	odd := image.Image{Marks: of(2, 1), Blocks: "00000000111"}
	want := image.Image{Marks: of(4, 0), Blocks: "eeeeeeee111"}
	want.Done[4] = done.Client{Top: 4, Bits: 1}
	does(t, "one block and a half", odd, writes(4, spanOf(0, 1)), want, api.OK)
	refuses(t, "one block and a half", odd, writes(4, spanOf(1, 1)), api.ErrRange)
	refuses(t, "a bit that Low should have", odd, writes(3, spanOf(0, 1)), api.ErrThere)
	for _, m := range []api.Marks{of(greatest, 0), of(greatest, greatest)} {
		refuses(t, "all numbers", image.Image{Marks: m}, writes(greatest, spanOf(0, 1)), api.ErrThere)
	}
	refuses(t, "all but one", image.Image{Marks: of(greatest-1, 0)}, entry.Noop(greatest, 2, 1), api.ErrRange)
}

// replayed is what Do makes, one after the other.
func replayed(i image.Image, l []api.Entry) image.Image {
	for _, e := range l {
		if next, wrong := order.Do(i, e); wrong == api.OK {
			i = next
		}
	}
	return i
}

func TestReplay(t *testing.T) {
	a, b, c := writes(4, spanOf(0, 2)), entry.Noop(6, 2, 1), writes(7, spanOf(1, 1))
	far, long := writes(90, spanOf(1, 1)), writes(4, spanOf(3, 2))
	rows := []struct {
		what   string
		l      []api.Entry
		marks  api.Marks
		blocks string
	}{
		{"none", nil, of(3, 2), "00000000111111112222222233333333"},
		{"none", []api.Entry{}, of(3, 2), "00000000111111112222222233333333"},
		{"one", []api.Entry{a}, of(5, 0), "eeeeeeeeeeeeeeee2222222233333333"},
		{"several", []api.Entry{a, b, c}, of(7, 0), "eeeeeeeehhhhhhhh2222222233333333"},
		{"several, the other way", []api.Entry{c, b, a}, of(7, 0), "eeeeeeeeeeeeeeee2222222233333333"},
		{"the same twice", []api.Entry{a, c, a}, of(5, 2), "eeeeeeeehhhhhhhh2222222233333333"},
		{"one without room", []api.Entry{a, far, c}, of(5, 2), "eeeeeeeehhhhhhhh2222222233333333"},
		{"one that is too long", []api.Entry{long, a, long, c}, of(5, 2), "eeeeeeeehhhhhhhh2222222233333333"},
		{"one that is done", []api.Entry{writes(5, spanOf(2, 2)), c}, of(3, 2|8), "00000000hhhhhhhh2222222233333333"},
		{"all refused", []api.Entry{far, long, writes(0, spanOf(0, 1))}, of(3, 2), "00000000111111112222222233333333"},
	}
	for _, r := range rows {
		kept := copied(r.l)
		got := order.Replay(four(), r.l)
		if got.Marks != r.marks || got.Blocks != r.blocks {
			t.Errorf("%s: %+v, not %+v, %s", r.what, got, r.marks, r.blocks)
		}
		if want := replayed(four(), r.l); got != want {
			t.Errorf("%s: %+v, not %+v", r.what, got, want)
		}
		same(t, r.what, r.l, kept)
	}
}

func TestReplayHasTheRequests(t *testing.T) {
	l := []api.Entry{writes(4, spanOf(0, 1)), writes(6, spanOf(9, 1)), entry.Noop(7, 2, 1), writes(8, spanOf(1, 1))}
	i := order.Replay(four(), l)
	for client := uint64(1); client <= 8; client++ {
		for req := uint64(1); req < 12; req++ {
			want := client == 5 && req == 4 || client == 1 && req == 8 || client == 2 && req == 7
			if done.Has(i.Done, client, req) != want {
				t.Errorf("the client %d's request %d: %v", client, req, !want)
			}
		}
	}
}

func TestReplayReadsTheListAlone(t *testing.T) {
	l := []api.Entry{writes(4, spanOf(0, 1)), writes(6, spanOf(1, 1))}
	if got, want := order.Replay(four(), l[:1]), replayed(four(), []api.Entry{l[0]}); got != want {
		t.Errorf("%+v", got)
	}
}

// several is entries that differ in all that an entry has.
func several() []api.Entry {
	return []api.Entry{
		writes(7, spanOf(1, 2), at(3, 4)...),
		entry.Noop(7, 3, 2),
		{},
		{Index: greatest, Term: greatest, Start: 9, Kind: -4, Client: greatest, Req: 8, Span: spanOf(math.MaxUint32, 7), Data: "some", Behind: far(64)},
		writes(1, spanOf(5, 1)),
	}
}

func TestChain(t *testing.T) {
	l := several()
	for _, first := range []uint64{0, 1, 2, 65, api.MaxIndex, greatest - 4, greatest - 3, greatest - 1, greatest} {
		for _, n := range []int{math.MinInt, -1, 0, 1, 2, 3, 4, 5, 6, 64, math.MaxInt} {
			for size := range len(l) + 1 {
				got := order.Chain(l[:size], first, n)
				if len(got) != size {
					t.Fatalf("%d of %d", len(got), size)
				}
				for k, e := range got {
					want := l[k]
					want.Index, want.Behind = first, nil
					for range k {
						want.Index++
					}
					for j := k - 1; j >= 0 && k-j <= n; j-- {
						want.Behind = append(want.Behind, api.Look{Client: l[j].Client, Req: l[j].Req, Span: l[j].Span})
					}
					if !entry.Same(e, want) {
						t.Errorf("from %d on, looking behind at %d: %+v, not %+v", first, n, e, want)
					}
				}
			}
		}
	}
	same(t, "behind Chain", l, several())
}

func TestChainOfSome(t *testing.T) {
	for _, n := range []int{-1, 0, 1, 9} {
		for _, l := range [][]api.Entry{nil, {}, several()[:0]} {
			if got := order.Chain(l, 5, n); len(got) != 0 {
				t.Errorf("of none: %+v", got)
			}
		}
	}
	got := order.Chain(several()[:3], greatest-1, 1)
	for k, index := range []uint64{greatest - 1, greatest, 0} {
		if got[k].Index != index {
			t.Errorf("%d: %d, not %d", k, got[k].Index, index)
		}
	}
	if len(got[0].Behind) != 0 || len(got[1].Behind) != 1 || got[1].Behind[0].Req != 7 || len(got[2].Behind) != 1 || got[2].Behind[0] != (api.Look{}) {
		t.Errorf("%+v", got)
	}
}

func TestChainIsNobodys(t *testing.T) {
	l := several()
	got := order.Chain(l, 9, 3)
	for k := range got {
		clear(got[k].Behind[:cap(got[k].Behind)])
	}
	clear(got[:cap(got)])
	same(t, "what was handed in", l, several())
	same(t, "the next one", order.Chain(l, 9, 3), order.Chain(several(), 9, 3))
	spare := several()
	order.Chain(spare[:2], 9, 3)
	same(t, "what lies behind the list", spare, several())
}

// P22.3

// chance is n entries by chance, of few blocks, one behind the other from first on, each looking behind at look.
func chance(g *rand.Rand, n int, first uint64, look int, blocks int) []api.Entry {
	var l []api.Entry
	for k := range n {
		if g.Intn(6) == 0 {
			l = append(l, entry.Noop(0, 2, 1))
			continue
		}
		from := g.Intn(blocks)
		e := writes(uint64(k), spanOf(uint32(from), 1+uint32(g.Intn(min(2, blocks-from)))))
		e.Client, e.Req = 1+uint64(g.Intn(3)), 1+uint64(g.Intn(40))
		l = append(l, e)
	}
	return order.Chain(l, first, look)
}

// fresh is an image of so many blocks behind all indices below first.
func fresh(first uint64, blocks int) image.Image {
	i := image.Image{Marks: of(first-1, 0)}
	for k := range blocks {
		i.Blocks += strings.Repeat(string(rune('A'+k)), api.BlockLen)
	}
	return i
}

// ends goes through all orders in which all of l may be done, and counts them.
func ends(t *testing.T, i image.Image, l []api.Entry, end func(image.Image)) int {
	t.Helper()
	if marks.Has(i.Marks, l[len(l)-1].Index) && len(marks.Holes(i.Marks)) == 0 {
		end(i)
		return 1
	}
	n := 0
	for _, e := range l {
		if marks.Has(i.Marks, e.Index) || !order.May(e, i.Marks) {
			continue
		}
		next, wrong := order.Do(i, e)
		if wrong != api.OK {
			t.Fatalf("%+v is refused: %d", e, int(wrong))
		}
		n += ends(t, next, l, end)
	}
	if n == 0 {
		t.Fatalf("nothing may be done with %+v", i.Marks)
	}
	return n
}

func TestInEachOrder(t *testing.T) {
	g := rand.New(rand.NewSource(24))
	many := 0
	for range 300 {
		first := []uint64{1, 2, 70, limit - 5}[g.Intn(4)]
		l := chance(g, 6, first, g.Intn(7), 1+g.Intn(6))
		i := fresh(first, 6)
		want := order.Replay(i, l)
		n := ends(t, i, l, func(got image.Image) {
			if got != want {
				t.Errorf("%+v, not %+v, of %+v", got, want, l)
			}
		})
		if n > 1 {
			many++
		}
	}
	if many < 100 {
		t.Errorf("only %d could be done in more than one order", many)
	}
}

func TestLookingAtNothingThereIsOneOrder(t *testing.T) {
	g := rand.New(rand.NewSource(25))
	for range 20 {
		l := chance(g, 6, 1, 0, 6)
		if n := ends(t, fresh(1, 6), l, func(image.Image) {}); n != 1 {
			t.Errorf("%d orders", n)
		}
	}
}

func TestApartThereAreAllOrders(t *testing.T) {
	var l []api.Entry
	for k := range uint32(5) {
		l = append(l, writes(uint64(k), spanOf(k, 1)))
	}
	if n := ends(t, fresh(1, 5), order.Chain(l, 1, 4), func(image.Image) {}); n != 120 {
		t.Errorf("%d orders", n)
	}
	if n := ends(t, fresh(1, 5), order.Chain(l, 1, 1), func(image.Image) {}); n != 8 {
		t.Errorf("%d orders, each looking behind at one", n) // Fibonacci's numbers
	}
}

// Whoever comes to know of entries in any order, and does what is Ready each time, comes to what they come to one after the other.
func TestAsTheyCome(t *testing.T) {
	g := rand.New(rand.NewSource(26))
	ahead := 0
	for range 300 {
		n, look, blocks := 1+g.Intn(150), 1+g.Intn(64), 1+g.Intn(64)
		first := []uint64{1, 9, 1 << 40, limit - 149}[g.Intn(4)]
		l := chance(g, n, first, look, blocks)
		i := fresh(first, blocks)
		want := order.Replay(i, l)
		var known []api.Entry
		come := g.Perm(n)
		if g.Intn(2) == 0 { // not far from in order
			slices.SortFunc(come, func(a, b int) int { return a/8 - b/8 })
		}
		for _, k := range come {
			known = append(known, l[k])
			for _, index := range order.Ready(known, of(limit, 0), i.Marks) {
				next, wrong := order.Do(i, l[index-first])
				if wrong != api.OK {
					t.Fatalf("%d is refused: %d", index, int(wrong))
				}
				i = next
			}
			if i.Marks.Bits != 0 {
				ahead++
			}
		}
		if i != want {
			t.Errorf("%+v, not %+v", i, want)
		}
	}
	if ahead < 1000 {
		t.Errorf("only %d times something was done ahead", ahead)
	}
}

// Whoever may be done, but looks behind wrongly, is what the promise leaves out: that it matters shows that the tests above could fail.
func TestLookingWronglyMatters(t *testing.T) {
	l := []api.Entry{writes(1, spanOf(0, 1)), writes(2, spanOf(0, 1), at(3)...)}
	i := fresh(1, 4)
	mays(t, "looking wrongly", l[1], i.Marks, true)
	if order.Replay(i, l) == order.Replay(i, []api.Entry{l[1], l[0]}) {
		t.Error("it doesn't matter")
	}
	if behind.Tells(l[1], l[0]) {
		t.Error("it looks rightly")
	}
}
