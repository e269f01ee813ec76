package entry_test

import (
	"bytes"
	"encoding/binary"
	"math"
	"math/big"
	"math/rand"
	"slices"
	"strings"
	"testing"

	"keelson/api"
	"keelson/entry"
	"keelson/octet"
)

const lastIndex = api.MaxIndex - api.MaxMarks

var usual = api.Config{Nodes: 3, Behind: 4, Blocks: 16}

// write is a good entry of the usual config.
func write() api.Entry {
	return api.Entry{
		Index: 9, Term: 3, Start: 7, Kind: api.KindWrite, Client: 2, Req: 5,
		Span: api.Span{From: 4, Count: 2}, Data: "0123456789abcdef",
		Behind: []api.Look{{Client: 1, Req: 8, Span: api.Span{From: 1, Count: 1}}, {}},
	}
}

func noop() api.Entry {
	return api.Entry{Index: 9, Term: 3, Start: 7, Kind: api.KindNoop, Behind: []api.Look{{}, {Client: 8, Req: 1, Span: api.Span{From: 8, Count: 8}}}}
}

// with is e, of which something is changed.
func with(e api.Entry, change func(e *api.Entry)) api.Entry {
	e.Behind = slices.Clone(e.Behind)
	change(&e)
	return e
}

// look is a good one of a chunk of a block.
func look() api.Look {
	return api.Look{Client: 3, Req: 4, Span: api.Span{From: 0, Count: 1}}
}

func looks(n int) []api.Look {
	l := make([]api.Look, n)
	for k := range l {
		l[k] = look()
		l[k].Req += uint64(k)
	}
	return l
}

func isGood(t *testing.T, what string, e api.Entry, c api.Config, want bool) {
	t.Helper()
	if entry.Good(e, c) != want {
		t.Errorf("%s: %v, of %+v in %+v", what, !want, short(e), c)
	}
}

// short is e with so much of its texts and lists as can be read.
func short(e api.Entry) api.Entry {
	e.Data = e.Data[:min(len(e.Data), 64)]
	e.Behind = e.Behind[:min(len(e.Behind), 8)]
	return e
}

// P9.1

func TestFineNodes(t *testing.T) {
	for n := -9; n <= 70; n++ {
		c := usual
		c.Nodes = n
		if want := n == 3 || n == 5 || n == 7; entry.Fine(c) != want {
			t.Errorf("%d nodes: %v", n, !want)
		}
	}
	for _, n := range []int{math.MinInt, math.MaxInt, 1<<32 + 3, 1<<8 + 3, -1<<32 + 5, 1<<16 + 7} {
		c := usual
		c.Nodes = n
		if entry.Fine(c) {
			t.Errorf("%d nodes", n)
		}
	}
}

func TestFineBehind(t *testing.T) {
	for n := -2; n <= 130; n++ {
		c := usual
		c.Behind = n
		if want := n >= 1 && n <= 64; entry.Fine(c) != want {
			t.Errorf("%d behind: %v", n, !want)
		}
	}
	for _, n := range []int{math.MinInt, math.MaxInt, 1<<32 + 3, -1<<32 + 5} {
		c := usual
		c.Behind = n
		if entry.Fine(c) {
			t.Errorf("%d behind", n)
		}
	}
}

func TestFineBlocks(t *testing.T) {
	for n := range uint32(130) {
		c := usual
		c.Blocks = n
		if want := n >= 1 && n <= 64; entry.Fine(c) != want {
			t.Errorf("%d blocks: %v", n, !want)
		}
	}
	for _, n := range []uint32{1 << 8, 1<<16 + 1, 1 << 31, math.MaxUint32} {
		c := usual
		c.Blocks = n
		if entry.Fine(c) {
			t.Errorf("%d blocks", n)
		}
	}
}

func TestFineAsksOfEach(t *testing.T) {
	for _, nodes := range []int{2, 3, 4, 5, 6, 7, 8} {
		for _, behind := range []int{0, 1, 64, 65} {
			for _, blocks := range []uint32{0, 1, 64, 65} {
				want := nodes%2 == 1 && behind%65 != 0 && blocks%65 != 0
				if entry.Fine(api.Config{Nodes: nodes, Behind: behind, Blocks: blocks}) != want {
					t.Errorf("%d, %d, %d: %v", nodes, behind, blocks, !want)
				}
			}
		}
	}
	if entry.Fine(api.Config{}) {
		t.Error("nothing")
	}
}

func TestGoodOnes(t *testing.T) {
	isGood(t, "a write", write(), usual, true)
	isGood(t, "a noop", noop(), usual, true)
	isGood(t, "a noop that looks at nothing", entry.Noop(1, 1, 1), api.Config{Nodes: 3, Behind: 1, Blocks: 1}, true)
	isGood(t, "nothing", api.Entry{}, usual, false)
	isGood(t, "nothing, in nothing", api.Entry{}, api.Config{}, false)
}

func TestGoodNumbers(t *testing.T) {
	for _, c := range []struct {
		name string
		of   func(e *api.Entry) *uint64
		most uint64
	}{
		{"index", func(e *api.Entry) *uint64 { return &e.Index }, lastIndex},
		{"term", func(e *api.Entry) *uint64 { return &e.Term }, api.MaxIndex},
		{"start", func(e *api.Entry) *uint64 { return &e.Start }, api.MaxIndex},
	} {
		for _, n := range []uint64{0, 1, 2, 3, lastIndex - 1, lastIndex, lastIndex + 1, api.MaxIndex - 1, api.MaxIndex, api.MaxIndex + 1, 1 << 63, math.MaxUint64 - 1, math.MaxUint64} {
			for _, e := range []api.Entry{write(), noop()} {
				e.Behind = nil
				*c.of(&e) = n
				isGood(t, c.name, e, usual, n >= 1 && n <= c.most)
			}
		}
	}
}

func TestGoodTermsAndStartsAreFree(t *testing.T) {
	for _, start := range []uint64{1, 9, 10, api.MaxIndex} {
		for _, term := range []uint64{1, 9, api.MaxIndex} {
			isGood(t, "any term and start", with(write(), func(e *api.Entry) { e.Term, e.Start = term, start }), usual, true)
		}
	}
}

func TestGoodKind(t *testing.T) {
	for _, kind := range []int{math.MinInt, -2, -1, 0, 3, 4, 255, 256, 257, 258, 1<<32 + 1, 1<<32 + 2, math.MaxInt} {
		for _, e := range []api.Entry{write(), noop()} {
			e.Kind = kind
			isGood(t, "a kind that is none", e, usual, false)
		}
	}
	isGood(t, "a write as a noop", with(write(), func(e *api.Entry) { e.Kind = api.KindNoop }), usual, false)
	isGood(t, "a noop as a write", with(noop(), func(e *api.Entry) { e.Kind = api.KindWrite }), usual, false)
}

func TestGoodNoopIsZeroButForItsPlace(t *testing.T) {
	for name, change := range map[string]func(e *api.Entry){
		"a client":      func(e *api.Entry) { e.Client = 1 },
		"a request":     func(e *api.Entry) { e.Req = 1 },
		"a first block": func(e *api.Entry) { e.Span.From = 1 },
		"a block":       func(e *api.Entry) { e.Span.Count = 1 },
		"data":          func(e *api.Entry) { e.Data = "\x00" },
		"a block of it": func(e *api.Entry) { e.Span.Count, e.Data = 1, "01234567" },
		"all but data":  func(e *api.Entry) { e.Client, e.Req, e.Span.Count = 1, 1, 1 },
	} {
		isGood(t, name, with(noop(), change), usual, false)
	}
}

func TestGoodWrite(t *testing.T) {
	for _, n := range []uint64{0, 1, 2, 7, 8, 9, 10, 1 << 32, 1<<32 + 1, math.MaxUint64} {
		isGood(t, "a client", with(write(), func(e *api.Entry) { e.Client = n }), usual, n >= 1 && n <= 8)
	}
	for _, n := range []uint64{0, 1, 2, api.MaxIndex, api.MaxIndex + 1, math.MaxUint64} {
		isGood(t, "a request", with(write(), func(e *api.Entry) { e.Req = n }), usual, n != 0)
	}
}

// lies tells of a span, block by block, whether it is of 1 to 8 blocks of so many.
func lies(s api.Span, blocks uint32) bool {
	if s.Count < 1 || s.Count > 8 {
		return false
	}
	for k := range uint64(s.Count) {
		if uint64(s.From)+k >= uint64(blocks) {
			return false
		}
	}
	return true
}

func TestGoodSpan(t *testing.T) {
	for _, blocks := range []uint32{0, 1, 2, 7, 8, 9, 16, 63, 64, 65, 1 << 31, math.MaxUint32} {
		c := api.Config{Nodes: 5, Behind: 2, Blocks: blocks}
		for _, from := range []uint32{0, 1, 7, 8, 15, 16, 56, 57, 63, 64, blocks - 9, blocks - 8, blocks - 7, blocks - 1, blocks, math.MaxUint32 - 8, math.MaxUint32 - 7, math.MaxUint32} {
			for _, count := range []uint32{0, 1, 2, 7, 8, 9, 10, 64, 1 << 29, 1 << 31, math.MaxUint32} {
				s := api.Span{From: from, Count: count}
				data := strings.Repeat("x", 8*int(min(count, 16)))
				e := api.Entry{Index: 9, Term: 3, Start: 7, Kind: api.KindWrite, Client: 2, Req: 5, Span: s, Data: data}
				isGood(t, "a span", e, c, lies(s, blocks))
				behind := entry.Noop(9, 3, 7)
				behind.Behind = []api.Look{{Client: 2, Req: 5, Span: s}}
				isGood(t, "a span behind", behind, c, lies(s, blocks))
			}
		}
	}
}

func TestGoodData(t *testing.T) {
	for count := range uint32(10) {
		for n := range 90 {
			e := write()
			e.Span.Count, e.Data = count, strings.Repeat("\x00", n)
			isGood(t, "data", e, usual, count >= 1 && count <= 8 && n == 8*int(count))
		}
	}
	// 2^29 blocks and one more have as many bytes as one has, if they are reckoned modulo 2^32.
	isGood(t, "data of too many blocks", with(write(), func(e *api.Entry) { e.Span.Count, e.Data = 1<<29+1, "01234567" }), usual, false)
}

func TestGoodBehindHasAtMostTheConfigs(t *testing.T) {
	for _, most := range []int{math.MinInt, -1, 0, 1, 2, 4, 63, 64, 65, 100, math.MaxInt} {
		c := usual
		c.Behind = most
		for _, n := range []int{0, 1, 2, 3, 4, 5, 62, 63, 64, 65, 66, 100, 101} {
			for _, e := range []api.Entry{write(), noop()} {
				e.Index = 1000
				e.Behind = looks(n)
				isGood(t, "elements", e, c, n <= most)
				e.Behind = make([]api.Look, n)
				isGood(t, "zero elements", e, c, n <= most)
			}
		}
	}
}

func TestGoodBehindHasFewerThanIndex(t *testing.T) {
	c := usual
	c.Behind = 64
	for n := range 65 {
		for index := range uint64(70) {
			e := noop()
			e.Index, e.Behind = index, looks(n)
			isGood(t, "elements", e, c, index >= 1 && n < int(index))
			e.Behind = make([]api.Look, n)
			isGood(t, "zero elements", e, c, index >= 1 && n < int(index))
		}
	}
}

func TestGoodBehindMayBeNilOrEmpty(t *testing.T) {
	for _, index := range []uint64{1, 2, lastIndex} {
		for _, l := range [][]api.Look{nil, {}, make([]api.Look, 0, 3), looks(5)[:0]} {
			for _, e := range []api.Entry{write(), noop()} {
				e.Index, e.Behind = index, l
				isGood(t, "no element", e, usual, true)
			}
		}
	}
}

func TestGoodBehindElements(t *testing.T) {
	c := api.Config{Nodes: 7, Behind: 5, Blocks: 16}
	good := look()
	for _, x := range []struct {
		name string
		look api.Look
		want bool
	}{
		{"zero", api.Look{}, true},
		{"a write", good, true},
		{"a client alone", api.Look{Client: 1}, false},
		{"a request alone", api.Look{Req: 1}, false},
		{"a first block alone", api.Look{Span: api.Span{From: 1}}, false},
		{"a block alone", api.Look{Span: api.Span{Count: 1}}, false},
		{"a span alone", api.Look{Span: api.Span{From: 1, Count: 1}}, false},
		{"no client", api.Look{Req: 4, Span: good.Span}, false},
		{"no request", api.Look{Client: 3, Span: good.Span}, false},
		{"no span", api.Look{Client: 3, Req: 4}, false},
		{"no block", api.Look{Client: 3, Req: 4, Span: api.Span{From: 1}}, false},
		{"the last client", api.Look{Client: 8, Req: 4, Span: good.Span}, true},
		{"a client too many", api.Look{Client: 9, Req: 4, Span: good.Span}, false},
		{"the greatest client", api.Look{Client: math.MaxUint64, Req: 4, Span: good.Span}, false},
		{"the greatest request", api.Look{Client: 1, Req: math.MaxUint64, Span: good.Span}, true},
		{"the last block", api.Look{Client: 1, Req: 1, Span: api.Span{From: 15, Count: 1}}, true},
		{"a block too far", api.Look{Client: 1, Req: 1, Span: api.Span{From: 15, Count: 2}}, false},
		{"eight blocks", api.Look{Client: 1, Req: 1, Span: api.Span{From: 8, Count: 8}}, true},
		{"nine blocks", api.Look{Client: 1, Req: 1, Span: api.Span{From: 0, Count: 9}}, false},
	} {
		for at := range 5 {
			e := noop()
			e.Behind = []api.Look{good, {}, good, {}, good}
			e.Behind[at] = x.look
			isGood(t, x.name, e, c, x.want)
		}
	}
}

func TestGoodReadsNothingBehindTheList(t *testing.T) {
	e := noop()
	e.Behind = []api.Look{{}, {Client: 99}}[:1]
	isGood(t, "a bad look in the spare room", e, usual, true)
}

func TestGoodAsksNothingOfNodes(t *testing.T) {
	c := usual
	for _, c.Nodes = range []int{-1, 0, 2, 3, 8} {
		isGood(t, "a write", write(), c, true)
	}
}

// mayBe is what P9.1 says of an entry, told by what is wrong with it.
func mayBe(e api.Entry, c api.Config) bool {
	isLook := func(l api.Look) bool {
		return l.Client > 0 && l.Client < 9 && l.Req > 0 && lies(l.Span, c.Blocks)
	}
	bad := e.Index == 0 || e.Index>>62 != 0 || e.Index > lastIndex
	for _, n := range []uint64{e.Term, e.Start} {
		bad = bad || n-1 >= api.MaxIndex
	}
	own := api.Look{Client: e.Client, Req: e.Req, Span: e.Span}
	switch e.Kind {
	case 1:
		bad = bad || !isLook(own) || uint64(len(e.Data)) != 8*uint64(e.Span.Count)
	case 2:
		bad = bad || e.Client|e.Req != 0 || e.Span.From|e.Span.Count != 0 || len(e.Data) > 0
	default:
		bad = true
	}
	bad = bad || len(e.Behind) > c.Behind || new(big.Int).SetUint64(e.Index).Cmp(big.NewInt(int64(len(e.Behind)))) <= 0
	for _, l := range e.Behind {
		bad = bad || l != (api.Look{}) && !isLook(l)
	}
	return !bad
}

// drawn is an entry of which each part is one of few, good and bad ones.
func drawn(g *rand.Rand) api.Entry {
	pick := func(l ...uint64) uint64 { return l[g.Intn(len(l))] }
	anyLook := func() api.Look {
		if g.Intn(4) == 0 {
			return api.Look{}
		}
		return api.Look{Client: pick(1, 1, 2, 8, 8, 9*pick(0, 1)), Req: pick(1, 1, 2, 2, 3, 0), Span: api.Span{From: uint32(pick(0, 0, 1, 2, 3, 60)), Count: uint32(pick(1, 1, 2, 2, 8, 9*pick(0, 1)))}}
	}
	e := api.Entry{Index: pick(1, 2, 3, 4, 4, 5, 6, 9, 9, 64, lastIndex, lastIndex+pick(0, 1), 0), Term: pick(1, 2, 2, 3, 3, api.MaxIndex+pick(0, 1)), Start: pick(1, 1, 2, 3, 4, 5, api.MaxIndex*pick(0, 1))}
	e.Kind = int(pick(1, 1, 1, 2, 2, 3*pick(0, 1)))
	if e.Kind != 2 || g.Intn(8) == 0 {
		l := anyLook()
		e.Client, e.Req, e.Span = l.Client, l.Req, l.Span
		e.Data = strings.Repeat(string(rune('a'+g.Intn(2))), max(0, int(8*e.Span.Count)-g.Intn(9)/8))
	}
	for range g.Intn(5) {
		e.Behind = append(e.Behind, anyLook())
	}
	return e
}

func TestGoodOfMany(t *testing.T) {
	g := rand.New(rand.NewSource(1))
	var of [2]int
	for range 200000 {
		e := drawn(g)
		c := api.Config{Nodes: 3, Behind: g.Intn(6), Blocks: uint32(g.Intn(12))}
		want := mayBe(e, c)
		isGood(t, "one of many", e, c, want)
		if want {
			of[1]++
		} else {
			of[0]++
		}
	}
	if min(of[0], of[1]) < 10000 {
		t.Errorf("%d bad ones, %d good ones", of[0], of[1])
	}
}

// P9.2

func TestLook(t *testing.T) {
	want := api.Look{Client: 2, Req: 5, Span: api.Span{From: 4, Count: 2}}
	if l := entry.Look(write()); l != want {
		t.Errorf("%+v", l)
	}
	if l := entry.Look(noop()); l != (api.Look{}) {
		t.Errorf("of a noop: %+v", l)
	}
	greatest := api.Look{Client: math.MaxUint64, Req: math.MaxUint64 - 1, Span: api.Span{From: math.MaxUint32, Count: math.MaxUint32 - 1}}
	if l := entry.Look(api.Entry{Kind: -7, Client: greatest.Client, Req: greatest.Req, Span: greatest.Span}); l != greatest {
		t.Errorf("of one that may not be: %+v", l)
	}
}

func TestNoop(t *testing.T) {
	for _, n := range [][3]uint64{{9, 3, 7}, {1, 1, 1}, {0, 0, 0}, {math.MaxUint64, math.MaxUint64 - 1, math.MaxUint64 - 2}} {
		e := entry.Noop(n[0], n[1], n[2])
		if e.Index != n[0] || e.Term != n[1] || e.Start != n[2] || e.Kind != 2 {
			t.Errorf("%v: %+v", n, e)
		}
		if e.Client != 0 || e.Req != 0 || e.Span != (api.Span{}) || e.Data != "" || len(e.Behind) != 0 {
			t.Errorf("%v: %+v", n, e)
		}
	}
}

// changes is each part of an entry, changed alone, and whether it is one of its request's.
func changes() map[string]struct {
	change  func(e *api.Entry)
	request bool
} {
	type c = struct {
		change  func(e *api.Entry)
		request bool
	}
	return map[string]c{
		"index":                {func(e *api.Entry) { e.Index++ }, false},
		"index's top":          {func(e *api.Entry) { e.Index ^= 1 << 63 }, false},
		"term":                 {func(e *api.Entry) { e.Term++ }, false},
		"start":                {func(e *api.Entry) { e.Start++ }, false},
		"kind":                 {func(e *api.Entry) { e.Kind += 5 }, true},
		"kind's top":           {func(e *api.Entry) { e.Kind += 256 }, true},
		"client":               {func(e *api.Entry) { e.Client++ }, true},
		"req":                  {func(e *api.Entry) { e.Req++ }, true},
		"req's top":            {func(e *api.Entry) { e.Req ^= 1 << 63 }, true},
		"from":                 {func(e *api.Entry) { e.Span.From++ }, true},
		"count":                {func(e *api.Entry) { e.Span.Count++ }, true},
		"data":                 {func(e *api.Entry) { e.Data += "x" }, true},
		"data's last":          {func(e *api.Entry) { e.Data = e.Data[:len(e.Data)-1] + "\x00" }, true},
		"no data":              {func(e *api.Entry) { e.Data = "" }, true},
		"one more behind":      {func(e *api.Entry) { e.Behind = append(e.Behind, api.Look{}) }, false},
		"one fewer behind":     {func(e *api.Entry) { e.Behind = e.Behind[:1] }, false},
		"none behind":          {func(e *api.Entry) { e.Behind = nil }, false},
		"another order behind": {func(e *api.Entry) { slices.Reverse(e.Behind) }, false},
		"a client behind":      {func(e *api.Entry) { e.Behind[0].Client++ }, false},
		"a req behind":         {func(e *api.Entry) { e.Behind[1].Req++ }, false},
		"a from behind":        {func(e *api.Entry) { e.Behind[0].Span.From++ }, false},
		"a count behind":       {func(e *api.Entry) { e.Behind[1].Span.Count++ }, false},
	}
}

func TestSameAndAlike(t *testing.T) {
	e := write()
	if !entry.Same(e, write()) || !entry.Alike(e, write()) {
		t.Error("one, and itself")
	}
	for name, c := range changes() {
		x := with(e, c.change)
		for _, pair := range [][2]api.Entry{{e, x}, {x, e}} {
			if entry.Same(pair[0], pair[1]) {
				t.Errorf("same, of another %s", name)
			}
			if entry.Alike(pair[0], pair[1]) == c.request {
				t.Errorf("alike is %v, of another %s", c.request, name)
			}
		}
		if !entry.Same(x, with(e, c.change)) || !entry.Alike(x, with(e, c.change)) {
			t.Errorf("one of another %s, and itself", name)
		}
	}
}

func TestSameTakesNilAsEmpty(t *testing.T) {
	a, b := entry.Noop(3, 2, 1), entry.Noop(3, 2, 1)
	b.Behind = make([]api.Look, 0, 4)
	if !entry.Same(a, b) || !entry.Same(b, a) || !entry.Same(api.Entry{}, api.Entry{Behind: []api.Look{}}) {
		t.Error("nil, and empty")
	}
	a.Behind = []api.Look{{}}
	if entry.Same(a, b) || entry.Same(b, a) {
		t.Error("a zero look, and none")
	}
	a.Behind, b.Behind = []api.Look{{}, look()}[:1], []api.Look{{}, {}}[:1]
	if !entry.Same(a, b) {
		t.Error("another spare room")
	}
}

func TestAlikeAcrossKinds(t *testing.T) {
	if !entry.Alike(entry.Noop(1, 2, 3), entry.Noop(4, 5, 6)) {
		t.Error("two noops")
	}
	if entry.Alike(write(), noop()) || entry.Alike(api.Entry{}, entry.Noop(0, 0, 0)) {
		t.Error("two kinds")
	}
}

func TestCopyIsTheSameInItsOwnMemory(t *testing.T) {
	for _, e := range []api.Entry{write(), noop(), {}, entry.Noop(1, 1, 1), {Kind: -3, Behind: looks(200)}, {Index: math.MaxUint64, Data: "x", Behind: []api.Look{}}} {
		c := entry.Copy(e)
		if !entry.Same(e, c) {
			t.Errorf("%+v, not %+v", short(c), short(e))
		}
		was := slices.Clone(e.Behind)
		for k := range c.Behind {
			c.Behind[k] = api.Look{Client: 77}
		}
		if !slices.Equal(e.Behind, was) {
			t.Errorf("the copy's is the first one's: %+v", short(e))
		}
		c = entry.Copy(e)
		for k := range e.Behind {
			e.Behind[k] = api.Look{Client: 78}
		}
		if !slices.Equal(c.Behind, was) {
			t.Errorf("the first one's is the copy's: %+v", short(c))
		}
	}
}

func TestCopyHasNothingOfTheSpareRoom(t *testing.T) {
	l := looks(3)
	e := entry.Noop(9, 9, 9)
	e.Behind = l[:1]
	c := entry.Copy(e)
	spare := c.Behind[:cap(c.Behind)]
	if slices.Contains(spare, l[1]) || slices.Contains(spare, l[2]) {
		t.Error("the spare room is copied")
	}
	clear(append(c.Behind, api.Look{Client: 5}))
	if !slices.Equal(l, looks(3)) {
		t.Error("the spare room is shared")
	}
}

// P9.3

// laid is the bytes of an entry as P9.3 lays them.
func laid(e api.Entry) []byte {
	le := binary.LittleEndian
	look := func(b []byte, l api.Look) []byte {
		b = le.AppendUint64(le.AppendUint64(b, l.Client), l.Req)
		return le.AppendUint32(le.AppendUint32(b, l.Span.From), l.Span.Count)
	}
	var b []byte
	for _, n := range []uint64{e.Index, e.Term, e.Start} {
		b = le.AppendUint64(b, n)
	}
	b = append(b, byte(e.Kind))
	b = look(b, api.Look{Client: e.Client, Req: e.Req, Span: e.Span})
	b = le.AppendUint16(b, uint16(len(e.Data)))
	b = append(b, e.Data...)
	b = append(b, byte(len(e.Behind)))
	for _, l := range e.Behind {
		b = look(b, l)
	}
	return b
}

// textOf is bytes of an entry that can be written.
func textOf(t *testing.T, e api.Entry) []byte {
	t.Helper()
	b, wrong := entry.Bytes(e)
	if wrong != api.OK {
		t.Fatalf("%+v: %d", short(e), int(wrong))
	}
	return b
}

func refuses(t *testing.T, what string, e api.Entry, want api.Errno) {
	t.Helper()
	if b, wrong := entry.Bytes(e); len(b) != 0 || wrong != want {
		t.Errorf("%s: %d bytes, %d, not %d", what, len(b), int(wrong), int(want))
	}
}

func TestBytesOfANoop(t *testing.T) {
	b := textOf(t, entry.Noop(0x0102030405060708, 2, 3))
	want := make([]byte, 52)
	copy(want, []byte{8, 7, 6, 5, 4, 3, 2, 1, 2})
	want[16], want[24] = 3, 2
	if !bytes.Equal(b, want) {
		t.Errorf("%v", b)
	}
}

func TestBytesOfAWrite(t *testing.T) {
	e := api.Entry{Index: 1, Term: 2, Start: 3, Kind: 1, Client: 4, Req: 5, Span: api.Span{From: 6, Count: 1}, Data: "01234567", Behind: []api.Look{{Client: 7, Req: 8, Span: api.Span{From: 9, Count: 10}}}}
	want := "\x01\x00\x00\x00\x00\x00\x00\x00" + "\x02\x00\x00\x00\x00\x00\x00\x00" + "\x03\x00\x00\x00\x00\x00\x00\x00" + "\x01" +
		"\x04\x00\x00\x00\x00\x00\x00\x00" + "\x05\x00\x00\x00\x00\x00\x00\x00" + "\x06\x00\x00\x00" + "\x01\x00\x00\x00" +
		"\x08\x0001234567" + "\x01" +
		"\x07\x00\x00\x00\x00\x00\x00\x00" + "\x08\x00\x00\x00\x00\x00\x00\x00" + "\x09\x00\x00\x00" + "\x0a\x00\x00\x00"
	if b := textOf(t, e); string(b) != want {
		t.Errorf("%q", b)
	}
}

func TestBytesOfMany(t *testing.T) {
	g := rand.New(rand.NewSource(2))
	for range 20000 {
		e := wild(g)
		if b := textOf(t, e); !bytes.Equal(b, laid(e)) {
			t.Fatalf("%+v: %v, not %v", short(e), b, laid(e))
		}
	}
}

// wild is an entry that can be written, be it good or not.
func wild(g *rand.Rand) api.Entry {
	number := func() uint64 { return g.Uint64() >> g.Intn(65) }
	block := func() uint32 { return g.Uint32() >> g.Intn(33) }
	e := api.Entry{Index: number(), Term: number(), Start: number(), Kind: g.Intn(256), Client: number(), Req: number(), Span: api.Span{From: block(), Count: block()}}
	data := make([]byte, g.Intn(1<<g.Intn(10)))
	g.Read(data)
	e.Data = string(data)
	for range g.Intn(1 << g.Intn(7)) {
		e.Behind = append(e.Behind, api.Look{Client: number(), Req: number(), Span: api.Span{From: block(), Count: block()}})
	}
	return e
}

func TestBytesKind(t *testing.T) {
	for _, kind := range []int{0, 1, 2, 3, 127, 128, 254, 255} {
		e := write()
		e.Kind = kind
		if b := textOf(t, e); b[24] != byte(kind) || len(b) != len(laid(write())) {
			t.Errorf("the kind %d: %v", kind, b)
		}
	}
	for _, kind := range []int{math.MinInt, -1 << 32, -256, -255, -1, 256, 257, 1 << 16, 1<<32 + 1, math.MaxInt} {
		refuses(t, "a kind", with(write(), func(e *api.Entry) { e.Kind = kind }), api.ErrArg)
	}
}

func TestBytesLengths(t *testing.T) {
	e := write()
	e.Data, e.Behind = strings.Repeat("x", api.MaxText), looks(api.MaxBehind)
	if b := textOf(t, e); !bytes.Equal(b, laid(e)) {
		t.Errorf("the longest: %d bytes", len(b))
	}
	long := strings.Repeat("x", api.MaxText+1)
	refuses(t, "data", with(write(), func(e *api.Entry) { e.Data = long }), api.ErrLong)
	refuses(t, "behind", with(write(), func(e *api.Entry) { e.Behind = looks(api.MaxBehind + 1) }), api.ErrLong)
	refuses(t, "behind of 256 more", with(write(), func(e *api.Entry) { e.Behind = looks(256) }), api.ErrLong)
	refuses(t, "both", with(write(), func(e *api.Entry) { e.Data, e.Behind = long, looks(api.MaxBehind+1) }), api.ErrLong)
	refuses(t, "a text as long as one of none, modulo 2^16", with(write(), func(e *api.Entry) { e.Data = strings.Repeat("x", 1<<16) }), api.ErrLong)
	refuses(t, "data and kind", with(write(), func(e *api.Entry) { e.Data, e.Kind = long, 256 }), api.ErrArg)
	refuses(t, "behind and kind", with(write(), func(e *api.Entry) { e.Behind, e.Kind = looks(65), -1 }), api.ErrArg)
}

func TestBytesLeavesTheList(t *testing.T) {
	l := looks(4)
	e := write()
	e.Behind = l[:2]
	clear(textOf(t, e))
	if !slices.Equal(l, looks(4)) {
		t.Errorf("%+v", l)
	}
}

func isRead(t *testing.T, what string, r *octet.Reader, want api.Entry) {
	t.Helper()
	if e := entry.Read(r); !entry.Same(e, want) {
		t.Errorf("%s: %+v, not %+v", what, short(e), short(want))
	}
}

func TestReadOneBehindTheOther(t *testing.T) {
	both := append(laid(write()), laid(noop())...)
	r := octet.Read(append(both, 7, 8, 9))
	isRead(t, "the first", r, write())
	isRead(t, "the second", r, noop())
	if r.Bad() || r.Left() != 3 {
		t.Errorf("bad is %v, %d are left", r.Bad(), r.Left())
	}
	isRead(t, "no third", r, api.Entry{})
	if !r.Bad() || r.End() != api.ErrForm {
		t.Error("three bytes are no entry")
	}
}

func TestReadOfTooFewBytes(t *testing.T) {
	for _, e := range []api.Entry{write(), noop(), {}} {
		b := laid(e)
		for n := range b {
			r := octet.Read(b[:n])
			isRead(t, "too few bytes", r, api.Entry{})
			if !r.Bad() || r.Left() != 0 {
				t.Errorf("%d of %d bytes: bad is %v", n, len(b), r.Bad())
			}
		}
		r := octet.Read(b)
		isRead(t, "all bytes", r, e)
		if r.End() != api.OK {
			t.Errorf("of %d bytes: %d", len(b), int(r.End()))
		}
	}
}

func TestReadOfReadersThatHaveNothing(t *testing.T) {
	isRead(t, "nil", nil, api.Entry{})
	plain := &octet.Reader{}
	isRead(t, "a plain one", plain, api.Entry{})
	bad := octet.Read(laid(write()))
	bad.Fail()
	isRead(t, "a bad one", bad, api.Entry{})
	overtaken := octet.Read(laid(write()))
	overtaken.Take(9999)
	isRead(t, "one that was asked too much", overtaken, api.Entry{})
	if !plain.Bad() || !bad.Bad() || !overtaken.Bad() {
		t.Error("they are good")
	}
}

func TestReadOfTooManyBehind(t *testing.T) {
	e := write()
	e.Behind = looks(255)
	b := laid(e)
	at := len(laid(with(e, func(e *api.Entry) { e.Behind = nil }))) - 1
	for n := range 256 {
		b[at] = byte(n)
		r := octet.Read(b)
		want := api.Entry{}
		if n <= 64 {
			want = with(e, func(e *api.Entry) { e.Behind = e.Behind[:n] })
		}
		isRead(t, "a count", r, want)
		if r.Bad() != (n > 64) {
			t.Errorf("of %d elements: bad is %v", n, r.Bad())
		}
		if n <= 64 && r.Left() != 24*(255-n) {
			t.Errorf("of %d elements: %d bytes are left", n, r.Left())
		}
	}
}

func TestReadOfTooLongData(t *testing.T) {
	e := entry.Noop(1, 2, 3)
	e.Data = strings.Repeat("y", api.MaxText+1)
	r := octet.Read(laid(e))
	isRead(t, "too long data", r, api.Entry{})
	if !r.Bad() {
		t.Error("it is good")
	}
	e.Data = e.Data[1:]
	isRead(t, "the longest data", octet.Read(laid(e)), e)
}

func TestReadIsInItsOwnMemory(t *testing.T) {
	b := laid(write())
	e := entry.Read(octet.Read(b))
	clear(b)
	if !entry.Same(e, write()) {
		t.Errorf("%+v", e)
	}
}

// longest is a good entry of a config that has all it can have.
func longest(c api.Config) api.Entry {
	e := api.Entry{Index: lastIndex, Term: 1, Start: 1, Kind: api.KindWrite, Client: 1, Req: 1, Behind: make([]api.Look, c.Behind)}
	e.Span.Count = min(api.MaxCount, c.Blocks)
	e.Data = strings.Repeat("z", 8*int(e.Span.Count))
	return e
}

func TestRoom(t *testing.T) {
	for behind := 1; behind <= api.MaxBehind; behind++ {
		for blocks := uint32(1); blocks <= api.MaxBlocks; blocks++ {
			c := api.Config{Nodes: 3, Behind: behind, Blocks: blocks}
			e := longest(c)
			isGood(t, "the longest", e, c, true)
			if n := len(textOf(t, e)); entry.Room(c) != n {
				t.Errorf("%+v: %d, but the longest has %d bytes", c, entry.Room(c), n)
			}
		}
	}
	if n := entry.Room(api.Config{Nodes: 3, Behind: 64, Blocks: 64}); n != 52+64+64*24 {
		t.Errorf("the greatest: %d", n)
	}
	if n := entry.Room(api.Config{Nodes: 3, Behind: 1, Blocks: 1}); n != 52+8+24 {
		t.Errorf("the least: %d", n)
	}
}

func TestRoomOfConfigsThatMayNotBe(t *testing.T) {
	for _, c := range []struct {
		c    api.Config
		want int
	}{
		{api.Config{}, 52},                                   // a noop
		{api.Config{Behind: 3}, 52 + 72},                     // a noop that looks at noops
		{api.Config{Blocks: 3}, 52 + 24},                     // a write that looks at nothing
		{api.Config{Behind: -1, Blocks: 3}, 0},               // none
		{api.Config{Behind: math.MinInt, Blocks: 3}, 0},      // none
		{api.Config{Behind: 65, Blocks: 65}, 52 + 64 + 1536}, // one of more elements has no bytes
		{api.Config{Behind: math.MaxInt, Blocks: math.MaxUint32}, 52 + 64 + 1536},
	} {
		if n := entry.Room(c.c); n != c.want {
			t.Errorf("%+v: %d, not %d", c.c, n, c.want)
		}
	}
}

func TestNoGoodOneHasMoreThanRoom(t *testing.T) {
	g := rand.New(rand.NewSource(3))
	for range 100000 {
		e, c := drawn(g), api.Config{Nodes: 3, Behind: g.Intn(5), Blocks: uint32(g.Intn(10))}
		if entry.Good(e, c) && len(textOf(t, e)) > entry.Room(c) {
			t.Errorf("%+v has more than %d bytes, of %+v", e, entry.Room(c), c)
		}
	}
}

// P9.4

func TestWhatIsWrittenIsRead(t *testing.T) {
	g := rand.New(rand.NewSource(4))
	for range 20000 {
		e := wild(g)
		r := octet.Read(textOf(t, e))
		isRead(t, "what was written", r, e)
		if r.End() != api.OK {
			t.Fatalf("%+v: %d", short(e), int(r.End()))
		}
	}
	for _, e := range []api.Entry{write(), noop(), {}, longest(usual)} {
		isRead(t, "what was written", octet.Read(textOf(t, e)), e)
	}
}

func TestWhatIsReadWasWrittenSo(t *testing.T) {
	g := rand.New(rand.NewSource(5))
	var good int
	for range 100000 {
		b := laid(wild(g))
		for range g.Intn(3) {
			b[g.Intn(len(b))] = byte(g.Intn(256))
		}
		b = append(b, make([]byte, g.Intn(40))...)
		b = b[:max(0, len(b)-g.Intn(40))]
		r := octet.Read(b)
		e := entry.Read(r)
		if r.Bad() {
			if !entry.Same(e, api.Entry{}) {
				t.Fatalf("%+v, of a bad reader", short(e))
			}
			continue
		}
		good++
		if was := b[:len(b)-r.Left()]; !bytes.Equal(textOf(t, e), was) {
			t.Fatalf("%+v, of %v", short(e), was)
		}
	}
	if good < 10000 {
		t.Errorf("%d only were read", good)
	}
}
