package wire_test

import (
	"encoding/binary"
	"hash/crc32"
	"math"
	"math/rand"
	"slices"
	"strings"
	"testing"

	"keelson/api"
	"keelson/entry"
	"keelson/wire"
)

const (
	people  = 15 // the greatest number of who speaks
	emptyAt = 76 // bytes of a message without data and entries
	noopAt  = 52 // of an entry without data and looks
)

// full is a good message, each field of which says something.
func full() api.Message {
	return api.Message{
		Kind: api.MsgAppend, From: 2, To: 9, Term: 0x0102030405060708, Index: 11, Low: 12, Bits: 1<<63 | 5, Round: 13, Yes: true,
		Client: 14, Req: 15, Span: api.Span{From: 0xa1b2c3d4, Count: 3}, Code: 200, Data: "some data",
		Entries: []api.Entry{write(), {Index: 5, Term: 2, Start: 3, Kind: api.KindNoop}},
	}
}

// write is an entry, each field of which says something.
func write() api.Entry {
	return api.Entry{
		Index: 9, Term: 3, Start: 7, Kind: api.KindWrite, Client: 2, Req: 5, Span: api.Span{From: 4, Count: 2}, Data: "0123456789abcdef",
		Behind: []api.Look{{Client: 1, Req: 8, Span: api.Span{From: 1, Count: 1}}, {}},
	}
}

// with is m in memory of its own, of which something is changed.
func with(m api.Message, change func(m *api.Message)) api.Message {
	m.Entries = slices.Clone(m.Entries)
	for k := range m.Entries {
		m.Entries[k].Behind = slices.Clone(m.Entries[k].Behind)
	}
	change(&m)
	return m
}

// like is an empty message of a kind.
func like(kind int) api.Message {
	return api.Message{Kind: kind}
}

// body is what is sealed of m, byte by byte, whatever m is.
func body(m api.Message) []byte {
	yes := byte(0)
	if m.Yes {
		yes = 1
	}
	b := []byte{byte(m.Kind), byte(m.From), byte(m.To), byte(m.Code), yes}
	for _, n := range []uint64{m.Term, m.Index, m.Low, m.Bits, m.Round, m.Client, m.Req} {
		b = binary.LittleEndian.AppendUint64(b, n)
	}
	b = binary.LittleEndian.AppendUint32(b, m.Span.From)
	b = binary.LittleEndian.AppendUint32(b, m.Span.Count)
	b = binary.LittleEndian.AppendUint16(b, uint16(len(m.Data)))
	b = append(b, m.Data...)
	b = append(b, byte(len(m.Entries)))
	for _, e := range m.Entries {
		b = append(b, entryBytes(e)...)
	}
	return b
}

func entryBytes(e api.Entry) []byte {
	var b []byte
	for _, n := range []uint64{e.Index, e.Term, e.Start} {
		b = binary.LittleEndian.AppendUint64(b, n)
	}
	b = append(b, byte(e.Kind))
	b = append(b, lookBytes(api.Look{Client: e.Client, Req: e.Req, Span: e.Span})...)
	b = binary.LittleEndian.AppendUint16(b, uint16(len(e.Data)))
	b = append(b, e.Data...)
	b = append(b, byte(len(e.Behind)))
	for _, l := range e.Behind {
		b = append(b, lookBytes(l)...)
	}
	return b
}

func lookBytes(l api.Look) []byte {
	b := binary.LittleEndian.AppendUint64(nil, l.Client)
	b = binary.LittleEndian.AppendUint64(b, l.Req)
	b = binary.LittleEndian.AppendUint32(b, l.Span.From)
	return binary.LittleEndian.AppendUint32(b, l.Span.Count)
}

// sealed is b, and its sum behind it.
func sealed(b []byte) string {
	sum := crc32.Checksum(b, crc32.MakeTable(crc32.Castagnoli))
	return string(binary.LittleEndian.AppendUint32(slices.Clone(b), sum))
}

// isGood tells whether m is good, and whether Make says the same.
func isGood(t *testing.T, what string, m api.Message, want bool) {
	t.Helper()
	if wire.Good(m) != want {
		t.Errorf("%s: Good: %v", what, !want)
	}
	s, e := wire.Make(m)
	if (e == api.ErrArg) == want {
		t.Errorf("%s: Make: %d", what, int(e))
	}
	if e != api.OK && s != "" {
		t.Errorf("%s: %d bytes beside %d", what, len(s), int(e))
	}
}

// refused is what s says, if it is a message: it must be none, by that error.
func refused(t *testing.T, what string, s string, want api.Errno) {
	t.Helper()
	m, e := wire.Read(s)
	if e != want {
		t.Errorf("%s: %d, not %d", what, int(e), int(want))
	}
	if e != api.OK && !isZero(m) {
		t.Errorf("%s: a message beside %d", what, int(e))
	}
}

func isZero(m api.Message) bool {
	return equal(m, api.Message{})
}

// equal tells whether all is the same, field by field.
func equal(a, b api.Message) bool {
	x, y := a, b
	x.Entries, y.Entries = nil, nil
	if x.Kind != y.Kind || string(body(x)) != string(body(y)) || x.From != y.From || x.To != y.To || x.Code != y.Code || x.Data != y.Data {
		return false
	}
	return slices.EqualFunc(a.Entries, b.Entries, func(d, e api.Entry) bool {
		return d.Kind == e.Kind && string(entryBytes(d)) == string(entryBytes(e)) && d.Data == e.Data && slices.Equal(d.Behind, e.Behind)
	})
}

// goes makes m, reads it, and tells its bytes.
func goes(t *testing.T, what string, m api.Message) string {
	t.Helper()
	s, e := wire.Make(m)
	if e != api.OK {
		t.Fatalf("%s: Make: %d", what, int(e))
	}
	if s != sealed(body(m)) {
		t.Errorf("%s: not the bytes that the chapter names", what)
	}
	back, e := wire.Read(s)
	if e != api.OK || !equal(back, m) || !wire.Same(back, m) {
		t.Errorf("%s: read as another one, with %d", what, int(e))
	}
	return s
}

// P17.1

func TestGoodNumbers(t *testing.T) {
	far := []int{math.MinInt, math.MaxInt, -1 << 32, 1<<32 + 1, 1<<8 + 1, 1<<16 + 1, -255}
	fields := []struct {
		name        string
		least, most int
		put         func(m *api.Message, n int)
	}{
		{"Kind", api.MsgVote, api.MsgAnswer, func(m *api.Message, n int) { m.Kind = n }},
		{"From", 0, people, func(m *api.Message, n int) { m.From = n }},
		{"To", 0, people, func(m *api.Message, n int) { m.To = n }},
		{"Code", 0, 255, func(m *api.Message, n int) { m.Code = n }},
	}
	for _, f := range fields {
		numbers := slices.Clone(far)
		for n := -3; n <= 300; n++ {
			numbers = append(numbers, n)
		}
		for _, n := range numbers {
			for _, base := range []api.Message{like(api.MsgBeat), full()} {
				m := with(base, func(m *api.Message) { f.put(m, n) })
				isGood(t, f.name, m, f.least <= n && n <= f.most)
			}
		}
	}
	isGood(t, "the zero Message", api.Message{}, false)
}

func TestGoodAsksNothingElse(t *testing.T) {
	most := uint64(math.MaxUint64)
	m := api.Message{
		Kind: api.MsgVote, Term: most, Index: most, Low: most, Bits: most, Round: most, Client: most, Req: most, Yes: true,
		Span: api.Span{From: math.MaxUint32, Count: math.MaxUint32},
	}
	isGood(t, "the greatest numbers", m, true)
	goes(t, "the greatest numbers", m)
	isGood(t, "from itself", with(full(), func(m *api.Message) { m.To = m.From }), true)
}

func TestGoodData(t *testing.T) {
	for _, n := range []int{0, 1, 255, 256, api.MaxText - 1, api.MaxText, api.MaxText + 1, 1 << 16, 1<<16 + 3} {
		m := with(full(), func(m *api.Message) { m.Data = strings.Repeat("d", n) })
		isGood(t, "data", m, n <= api.MaxText)
		if n <= api.MaxText {
			goes(t, "data", m)
		}
	}
}

func TestGoodEntries(t *testing.T) {
	for _, n := range []int{0, 1, 2, 254, 255, 256, 257, 511, 512} {
		m := like(api.MsgAppend)
		for k := range n {
			m.Entries = append(m.Entries, api.Entry{Index: uint64(k), Kind: api.KindNoop})
		}
		isGood(t, "entries", m, n <= 255)
		if n <= 255 {
			s := goes(t, "entries", m)
			if len(s) != emptyAt+n*noopAt {
				t.Errorf("%d entries: %d bytes", n, len(s))
			}
		}
	}
}

func TestGoodEntryWithoutBytes(t *testing.T) {
	changes := []struct {
		what   string
		change func(e *api.Entry)
		want   bool
	}{
		{"kind -1", func(e *api.Entry) { e.Kind = -1 }, false},
		{"kind 0", func(e *api.Entry) { e.Kind = 0 }, true},
		{"kind 255", func(e *api.Entry) { e.Kind = 255 }, true},
		{"kind 256", func(e *api.Entry) { e.Kind = 256 }, false},
		{"data of MaxText", func(e *api.Entry) { e.Data = strings.Repeat("e", api.MaxText) }, true},
		{"data of one more", func(e *api.Entry) { e.Data = strings.Repeat("e", api.MaxText+1) }, false},
		{"looks", func(e *api.Entry) { e.Behind = make([]api.Look, api.MaxBehind) }, true},
		{"one look more", func(e *api.Entry) { e.Behind = make([]api.Look, api.MaxBehind+1) }, false},
		{"none", func(e *api.Entry) { *e = api.Entry{} }, true},
	}
	for _, c := range changes {
		for k := range 3 {
			m := like(api.MsgAppend)
			m.Entries = []api.Entry{write(), write(), write()}
			c.change(&m.Entries[k])
			isGood(t, c.what, m, c.want)
			if c.want {
				goes(t, c.what, m)
			}
		}
	}
}

func TestMakeEmpty(t *testing.T) {
	for kind := api.MsgVote; kind <= api.MsgAnswer; kind++ {
		if s := goes(t, "an empty message", like(kind)); len(s) != emptyAt {
			t.Errorf("%d bytes", len(s))
		}
	}
}

// The bytes are those that the chapter names, one by one, told here once without any other telling's help.
func TestMakeBytes(t *testing.T) {
	m := api.Message{
		Kind: 3, From: 2, To: 9, Code: 200, Yes: true, Term: 1, Index: 2, Low: 3, Bits: 4, Round: 5, Client: 6, Req: 0x0908,
		Span: api.Span{From: 10, Count: 11}, Data: "ab", Entries: []api.Entry{{Index: 12, Term: 13, Start: 14, Kind: 2}},
	}
	want := []byte{
		3, 2, 9, 200, 1,
		1, 0, 0, 0, 0, 0, 0, 0, 2, 0, 0, 0, 0, 0, 0, 0, 3, 0, 0, 0, 0, 0, 0, 0, 4, 0, 0, 0, 0, 0, 0, 0,
		5, 0, 0, 0, 0, 0, 0, 0, 6, 0, 0, 0, 0, 0, 0, 0, 8, 9, 0, 0, 0, 0, 0, 0,
		10, 0, 0, 0, 11, 0, 0, 0,
		2, 0, 'a', 'b',
		1,
		12, 0, 0, 0, 0, 0, 0, 0, 13, 0, 0, 0, 0, 0, 0, 0, 14, 0, 0, 0, 0, 0, 0, 0, 2,
	}
	want = append(want, make([]byte, 27)...)
	s := goes(t, "a message", m)
	if s[:len(s)-4] != string(want) {
		t.Errorf("%v", []byte(s))
	}
}

// sized is a message of just so many bytes.
func sized(t *testing.T, n int) api.Message {
	t.Helper()
	m := like(api.MsgAppend)
	for left := n - emptyAt; left > 0; {
		room := min(left, noopAt+api.MaxText)
		if left > room && left-room < noopAt {
			room = left - noopAt
		}
		m.Entries = append(m.Entries, api.Entry{Kind: api.KindWrite, Data: strings.Repeat("x", room-noopAt)})
		left -= room
	}
	if len(sealed(body(m))) != n {
		t.Fatalf("not %d bytes", n)
	}
	return m
}

func TestMakeLong(t *testing.T) {
	for _, n := range []int{1 << 16, 1<<16 + 1, api.MaxWire - 1, api.MaxWire} {
		m := sized(t, n)
		isGood(t, "a long message", m, true)
		if s := goes(t, "a long message", m); len(s) != n {
			t.Errorf("%d bytes, not %d", len(s), n)
		}
	}
	for _, n := range []int{api.MaxWire + 1, api.MaxWire + 2, api.MaxWire + 4, api.MaxWire + 5, 2 * api.MaxWire} {
		refusesToMake(t, "a message too long", sized(t, n), api.ErrLong)
	}
}

func TestMakeManyLongEntries(t *testing.T) {
	m := like(api.MsgAppend)
	for range 255 {
		m.Entries = append(m.Entries, api.Entry{Data: strings.Repeat("x", api.MaxText), Behind: make([]api.Look, api.MaxBehind)})
	}
	isGood(t, "255 long entries", m, true)
	refusesToMake(t, "255 long entries", m, api.ErrLong)
	m.Entries[254].Kind = 256
	refusesToMake(t, "long ones, and one without bytes", m, api.ErrArg)
	m.Entries[254].Kind = 0
	m.Entries = append(m.Entries, api.Entry{})
	refusesToMake(t, "256 long entries", m, api.ErrArg)
}

func refusesToMake(t *testing.T, what string, m api.Message, want api.Errno) {
	t.Helper()
	if s, e := wire.Make(m); e != want || s != "" {
		t.Errorf("%s: %d, not %d, and %d bytes", what, int(e), int(want), len(s))
	}
}

// P17.2

func TestReadNothing(t *testing.T) {
	for n := range 4 {
		refused(t, "fewer bytes than a sum", strings.Repeat("\x00", n), api.ErrForm)
	}
	refused(t, "the sum of nothing", sealed(nil), api.ErrForm)
	refused(t, "four bytes", "\x01\x00\x00\x00", api.ErrSum)
}

func TestReadLong(t *testing.T) {
	for _, n := range []int{api.MaxWire + 1, api.MaxWire + 4, 2 * api.MaxWire} {
		refused(t, "a message too long", sealed(body(sized(t, n))), api.ErrLong)
		refused(t, "zeros", strings.Repeat("\x00", n), api.ErrLong)
	}
	refused(t, "MaxWire of zeros", strings.Repeat("\x00", api.MaxWire), api.ErrSum)
	refused(t, "MaxWire of zeros that are sealed", sealed(make([]byte, api.MaxWire-4)), api.ErrForm)
}

func TestReadSum(t *testing.T) {
	s := goes(t, "a message", full())
	for i := range len(s) {
		for bit := range 8 {
			b := []byte(s)
			b[i] ^= 1 << bit
			refused(t, "a turned bit", string(b), api.ErrSum)
		}
	}
	for n := range len(s) {
		want := api.ErrSum
		if n < 4 {
			want = api.ErrForm
		}
		refused(t, "a piece", s[:n], want)
	}
	refused(t, "one byte more", s+"\x00", api.ErrSum)
}

func TestReadEnds(t *testing.T) {
	for _, m := range []api.Message{like(api.MsgPulse), full(), with(full(), func(m *api.Message) { m.Entries = nil })} {
		b := body(m)
		for n := range len(b) {
			refused(t, "too early an end", sealed(b[:n]), api.ErrForm)
		}
		for _, more := range []string{"\x00", "\x01", "more", strings.Repeat("\x00", noopAt)} {
			refused(t, "too late an end", sealed(append(slices.Clone(b), more...)), api.ErrForm)
		}
	}
}

func TestReadNumbersOutOfBounds(t *testing.T) {
	for _, m := range []api.Message{like(api.MsgVote), full()} {
		b := body(m)
		bounds := []struct{ least, most int }{{1, 10}, {0, people}, {0, people}, {0, 255}, {0, 1}}
		for at, x := range bounds {
			for n := range 256 {
				c := slices.Clone(b)
				c[at] = byte(n)
				if n < x.least || n > x.most {
					refused(t, "a number out of its bounds", sealed(c), api.ErrForm)
					continue
				}
				back, e := wire.Read(sealed(c))
				if got := body(back); e != api.OK || string(got) != string(c) {
					t.Errorf("the byte %d being %d: %d", at, n, int(e))
				}
			}
		}
	}
}

func TestReadCounts(t *testing.T) {
	m := with(full(), func(m *api.Message) { m.Entries = nil })
	b := body(m)
	last := len(b) - 1
	for n := 1; n <= 255; n++ {
		c := slices.Clone(b)
		c[last] = byte(n)
		refused(t, "entries that are not there", sealed(c), api.ErrForm)
	}
	long := with(m, func(m *api.Message) { m.Data = strings.Repeat("d", api.MaxText) })
	b = body(long)
	at := 69 // of the data's length
	for _, n := range []uint16{api.MaxText - 1, api.MaxText + 1, math.MaxUint16, 0} {
		c := slices.Clone(b)
		binary.LittleEndian.PutUint16(c[at:], n)
		refused(t, "another length of the data", sealed(c), api.ErrForm)
	}
	longer := body(with(m, func(m *api.Message) { m.Data = strings.Repeat("d", api.MaxText+1) }))
	refused(t, "data longer than a text", sealed(longer), api.ErrForm)
}

func TestReadEntryThatCantBe(t *testing.T) {
	for k := range 2 {
		m := full()
		m.Entries = []api.Entry{write(), write()}
		m.Entries[k].Data = strings.Repeat("e", api.MaxText+1)
		refused(t, "an entry's data", sealed(body(m)), api.ErrForm)
		m = full()
		m.Entries = []api.Entry{write(), write()}
		m.Entries[k].Behind = make([]api.Look, api.MaxBehind+1)
		refused(t, "an entry's looks", sealed(body(m)), api.ErrForm)
	}
}

func TestReadIsNotHanded(t *testing.T) {
	b := []byte(goes(t, "a message", full()))
	first, _ := wire.Read(string(b))
	second, _ := wire.Read(string(b))
	first.Entries[0].Index = 99
	first.Entries[0].Behind[0].Req = 99
	if !equal(second, full()) {
		t.Error("two answers share a list")
	}
}

func TestSameFields(t *testing.T) {
	for k, change := range fieldChanges() {
		for _, base := range []api.Message{full(), {}} {
			if !wire.Same(base, with(base, func(*api.Message) {})) {
				t.Error("not the same as itself")
			}
			other := with(base, change)
			if wire.Same(base, other) || wire.Same(other, base) {
				t.Errorf("the same, though they differ in the field %d", k)
			}
		}
	}
}

// fieldChanges each change one field alone, whatever it was.
func fieldChanges() []func(m *api.Message) {
	changes := []func(m *api.Message){
		func(m *api.Message) { m.Kind++ },
		func(m *api.Message) { m.Kind += 256 },
		func(m *api.Message) { m.From++ },
		func(m *api.Message) { m.From += 256 },
		func(m *api.Message) { m.To++ },
		func(m *api.Message) { m.To += 256 },
		func(m *api.Message) { m.Yes = !m.Yes },
		func(m *api.Message) { m.Span.From++ },
		func(m *api.Message) { m.Span.Count++ },
		func(m *api.Message) { m.Code++ },
		func(m *api.Message) { m.Code += 256 },
		func(m *api.Message) { m.Data += "x" },
		func(m *api.Message) { m.Data = "x" + m.Data },
		func(m *api.Message) { m.Entries = append(m.Entries, api.Entry{}) },
	}
	wides := []func(m *api.Message) *uint64{
		func(m *api.Message) *uint64 { return &m.Term },
		func(m *api.Message) *uint64 { return &m.Index },
		func(m *api.Message) *uint64 { return &m.Low },
		func(m *api.Message) *uint64 { return &m.Bits },
		func(m *api.Message) *uint64 { return &m.Round },
		func(m *api.Message) *uint64 { return &m.Client },
		func(m *api.Message) *uint64 { return &m.Req },
	}
	for _, field := range wides {
		changes = append(changes, func(m *api.Message) { *field(m) ^= 1 }, func(m *api.Message) { *field(m) ^= 1 << 63 })
	}
	return changes
}

func TestSameEntries(t *testing.T) {
	changes := []func(e *api.Entry){
		func(e *api.Entry) { e.Index++ },
		func(e *api.Entry) { e.Term++ },
		func(e *api.Entry) { e.Start++ },
		func(e *api.Entry) { e.Kind++ },
		func(e *api.Entry) { e.Client++ },
		func(e *api.Entry) { e.Req++ },
		func(e *api.Entry) { e.Span.From++ },
		func(e *api.Entry) { e.Span.Count++ },
		func(e *api.Entry) { e.Data += "x" },
		func(e *api.Entry) { e.Behind[0].Client++ },
		func(e *api.Entry) { e.Behind[1].Req++ },
		func(e *api.Entry) { e.Behind[1].Span.From++ },
		func(e *api.Entry) { e.Behind[0].Span.Count++ },
		func(e *api.Entry) { e.Behind[0], e.Behind[1] = e.Behind[1], e.Behind[0] },
		func(e *api.Entry) { e.Behind = e.Behind[:1] },
		func(e *api.Entry) { e.Behind = nil },
	}
	base := like(api.MsgAppend)
	base.Entries = []api.Entry{write(), write(), write()}
	for k, change := range changes {
		for at := range base.Entries {
			other := with(base, func(m *api.Message) { change(&m.Entries[at]) })
			if wire.Same(base, other) || wire.Same(other, base) {
				t.Errorf("the same, though the entries %d differ by the change %d", at, k)
			}
		}
	}
}

func TestSameHowMany(t *testing.T) {
	l := []api.Entry{write(), {}, write(), {}}
	for i := range len(l) + 1 {
		for j := range len(l) + 1 {
			a, b := full(), full()
			a.Entries, b.Entries = l[:i], l[:j]
			if wire.Same(a, b) != (i == j) {
				t.Errorf("%d and %d entries", i, j)
			}
		}
	}
	none, empty := like(api.MsgBeat), like(api.MsgBeat)
	empty.Entries = []api.Entry{}
	if !wire.Same(none, empty) || !wire.Same(empty, none) {
		t.Error("none is not an empty list")
	}
	none.Entries, empty.Entries = []api.Entry{{}}, []api.Entry{{Behind: []api.Look{}}}
	if !wire.Same(none, empty) || !wire.Same(empty, none) {
		t.Error("no look is not an empty list")
	}
	a, b := full(), full()
	a.Entries, b.Entries = []api.Entry{l[0], l[1]}, []api.Entry{l[1], l[0]}
	if wire.Same(a, b) {
		t.Error("the same in another order")
	}
}

func TestReply(t *testing.T) {
	for _, kind := range []int{math.MinInt, -1, 0, 1, 2, 3, 4, 5, 6, 7, 8, 9, 10, 11, 255, 256, math.MaxInt} {
		m := full()
		got := wire.Reply(m, kind)
		want := api.Message{Kind: kind, From: 9, To: 2, Term: 0x0102030405060708, Index: 11, Round: 13, Client: 14, Req: 15}
		if !equal(got, want) || len(got.Entries) > 0 {
			t.Errorf("a reply of the kind %d: %+v", kind, got)
		}
	}
	wrong := api.Message{Kind: -5, From: math.MinInt, To: math.MaxInt, Code: -1, Data: strings.Repeat("x", api.MaxText+1), Entries: make([]api.Entry, 300)}
	if got := wire.Reply(wrong, 4); !equal(got, api.Message{Kind: 4, From: math.MaxInt, To: math.MinInt}) {
		t.Errorf("a reply to what is not good: %+v", got)
	}
	if got := wire.Reply(api.Message{}, 0); !isZero(got) {
		t.Errorf("a reply to nothing: %+v", got)
	}
}

func TestHandedInIsNotChanged(t *testing.T) {
	spare := make([]api.Entry, 2, 6)
	looks := make([]api.Look, 1, 4)
	spare[0], spare[1] = write(), write()
	spare[1].Behind = looks
	m := full()
	m.Entries = spare
	wire.Make(m)
	wire.Good(m)
	wire.Same(m, m)
	r := wire.Reply(m, 4)
	r.Data = "x"
	want := full()
	want.Entries = []api.Entry{write(), write()}
	want.Entries[1].Behind = make([]api.Look, 1)
	if !equal(m, want) {
		t.Errorf("%+v", m)
	}
	for _, e := range spare[2:4] {
		if e.Index != 0 || e.Data != "" {
			t.Error("spare room was written into")
		}
	}
}

// P17.3

// drawn is a good message by chance.
func drawn(r *rand.Rand) api.Message {
	num := func() uint64 { return r.Uint64() >> r.Intn(64) }
	span := func() api.Span { return api.Span{From: uint32(num()), Count: uint32(num())} }
	text := func(most int) string {
		b := make([]byte, r.Intn(most))
		r.Read(b)
		return string(b)
	}
	m := api.Message{
		Kind: 1 + r.Intn(10), From: r.Intn(16), To: r.Intn(16), Term: num(), Index: num(), Low: num(), Bits: num(), Round: num(),
		Yes: r.Intn(2) == 1, Client: num(), Req: num(), Span: span(), Code: r.Intn(256), Data: text(40),
	}
	for range r.Intn(5) {
		e := api.Entry{Index: num(), Term: num(), Start: num(), Kind: r.Intn(256), Client: num(), Req: num(), Span: span(), Data: text(30)}
		for range r.Intn(5) {
			e.Behind = append(e.Behind, api.Look{Client: num(), Req: num(), Span: span()})
		}
		m.Entries = append(m.Entries, e)
	}
	return m
}

func TestBackDrawn(t *testing.T) {
	r := rand.New(rand.NewSource(17))
	for range 2000 {
		m := drawn(r)
		s := goes(t, "a drawn message", m)
		other := drawn(r)
		if wire.Same(m, other) != equal(m, other) {
			t.Error("two drawn ones")
		}
		if o, _ := wire.Make(other); (o == s) != equal(m, other) {
			t.Error("two messages of the same bytes")
		}
	}
}

// What is read was made so: of bytes that are changed, and sealed once more, Read is what makes just these.
func TestBackChanged(t *testing.T) {
	r := rand.New(rand.NewSource(18))
	read := 0
	for range 20000 {
		b := body(drawn(r))
		for range 1 + r.Intn(2) {
			switch at := r.Intn(len(b)); r.Intn(4) {
			case 0:
				b = slices.Delete(b, at, at+1)
			case 1:
				b = slices.Insert(b, at, byte(r.Intn(256)))
			default:
				b[at] = byte(r.Intn(256))
			}
		}
		s := sealed(b)
		m, e := wire.Read(s)
		if e == api.OK {
			read++
			if back, e := wire.Make(m); e != api.OK || back != s {
				t.Fatal("read, and made otherwise")
			}
			continue
		}
		if e != api.ErrForm || !isZero(m) {
			t.Fatalf("%d", int(e))
		}
	}
	if read < 2000 {
		t.Errorf("only %d could be read", read)
	}
}

func TestBackNoise(t *testing.T) {
	r := rand.New(rand.NewSource(19))
	for range 5000 {
		b := make([]byte, r.Intn(200))
		r.Read(b)
		refused(t, "noise", sealed(b), api.ErrForm)
	}
}

// An entry is as the layer of entries reads it.
func TestEntriesAreTheLayersOwn(t *testing.T) {
	m := full()
	back, _ := wire.Read(goes(t, "a message", m))
	for k := range m.Entries {
		if !entry.Same(back.Entries[k], m.Entries[k]) {
			t.Errorf("the entry %d", k)
		}
	}
}
