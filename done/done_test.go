package done_test

import (
	"bytes"
	"encoding/binary"
	"math"
	"math/big"
	"math/rand"
	"slices"
	"testing"

	"keelson/api"
	"keelson/done"
	"keelson/octet"
)

const (
	greatest = math.MaxUint64
	size     = 10 * api.MaxClients // bytes of a table
)

// noClients is numbers that are no client's.
var noClients = []uint64{0, api.MaxClients + 1, api.MaxClients + 2, 16, 1 << 8, 1<<8 + 1, 1 << 32, 1<<32 + 1, 1 << 63, 1<<63 + 1, greatest - 1, greatest}

// clients is what a table says, as the tests tell it: of each client the greatest request, and all that were ever done, also those that are remembered no more.
type clients map[uint64]*client

type client struct {
	top  uint64
	done map[uint64]bool
}

func newClients() clients {
	m := clients{}
	for k := uint64(1); k <= api.MaxClients; k++ {
		m[k] = &client{done: map[uint64]bool{}}
	}
	return m
}

func (m clients) old(k, req uint64) bool {
	c := m[k]
	return c != nil && (req == 0 || c.top >= api.Keep && req <= c.top-api.Keep)
}

func (m clients) has(k, req uint64) bool {
	return m[k] != nil && m[k].done[req] && !m.old(k, req)
}

func (m clients) add(k, req uint64) bool {
	c := m[k]
	if c == nil || m.old(k, req) || m.has(k, req) {
		return false
	}
	c.done[req] = true
	c.top = max(c.top, req)
	return true
}

// table is the only Table that says so, if only calls made it.
func (m clients) table() done.Table {
	var t done.Table
	for k, c := range m {
		t[k-1].Top = c.top
		for bit := uint64(0); bit < api.Keep && bit < c.top; bit++ {
			if c.done[c.top-bit] {
				t[k-1].Bits |= 1 << bit
			}
		}
	}
	return t
}

// isSo tells whether a table is what a call should have made, and says of requests what the model does.
func (m clients) isSo(t *testing.T, what string, got done.Table, reqs ...uint64) {
	t.Helper()
	if want := m.table(); got != want {
		t.Fatalf("%s: %v, not %v", what, got, want)
	}
	for k := uint64(0); k <= api.MaxClients+1; k++ {
		for _, req := range reqs {
			if has, old := done.Has(got, k, req), done.Old(got, k, req); has != m.has(k, req) || old != m.old(k, req) {
				t.Fatalf("%s: %d of %d: has %v, old %v, not %v, %v", what, req, k, has, old, !has, !old)
			}
		}
	}
}

// only is a table of one client.
func only(k uint64, c done.Client) done.Table {
	var t done.Table
	t[k-1] = c
	return t
}

// adds tells what is added, which must be something new.
func adds(t *testing.T, what string, x done.Table, k uint64, reqs ...uint64) done.Table {
	t.Helper()
	for _, req := range reqs {
		var ok bool
		if x, ok = done.Add(x, k, req); !ok {
			t.Errorf("%s: %d of %d is not added", what, req, k)
		}
	}
	return x
}

// refuses tells whether nothing is added.
func refuses(t *testing.T, what string, x done.Table, k, req uint64) {
	t.Helper()
	if y, ok := done.Add(x, k, req); ok || y != x {
		t.Errorf("%s: %d of %d is added, %v: %v, not %v", what, req, k, ok, y, x)
	}
}

// around is numbers around n, as far as there are such, and those that are near nought, and near the greatest.
func around(n uint64) []uint64 {
	l := []uint64{0, 1, 2, 15, 16, 17, 1 << 16, 1<<16 + 1, 1 << 32, api.MaxIndex, api.MaxIndex + 1, 1 << 63, greatest - 17, greatest - 16, greatest - 15, greatest - 1, greatest}
	for d := uint64(0); d <= 70; d++ {
		if n >= d {
			l = append(l, n-d)
		}
		if n <= greatest-d {
			l = append(l, n+d)
		}
	}
	return l
}

// tops is greatest requests of all kinds.
var tops = []uint64{0, 1, 2, 14, 15, 16, 17, 31, 32, 33, 100, 1 << 16, 1 << 32, 1<<32 + 3, api.MaxIndex, 1 << 63, greatest - 17, greatest - 16, greatest - 15, greatest - 1, greatest}

// P14.1

func TestTheExample(t *testing.T) {
	x := adds(t, "the example", done.Table{}, 3, 5, 3)
	if !done.Has(x, 3, 3) || !done.Has(x, 3, 5) || done.Has(x, 3, 4) || done.Has(x, 3, 6) || done.Old(x, 3, 3) || done.Old(x, 3, 5) {
		t.Errorf("%v", x)
	}
	x = adds(t, "the example", x, 3, 30)
	if done.Has(x, 3, 3) || done.Has(x, 3, 5) || !done.Has(x, 3, 30) || !done.Old(x, 3, 3) || !done.Old(x, 3, 5) || done.Old(x, 3, 30) {
		t.Errorf("behind 30: %v", x)
	}
	if x != only(3, done.Client{Top: 30, Bits: 1}) {
		t.Errorf("behind 30: %v", x)
	}
}

func TestTheElementsOfATable(t *testing.T) {
	if x := (done.Table{}); len(x) != api.MaxClients {
		t.Errorf("a table has %d elements", len(x))
	}
	for k := uint64(1); k <= api.MaxClients; k++ {
		x := adds(t, "the first one", done.Table{}, k, 7)
		if x != only(k, done.Client{Top: 7, Bits: 1}) {
			t.Errorf("7 of %d: %v", k, x)
		}
		x = adds(t, "two more", x, k, 4, 9)
		if x != only(k, done.Client{Top: 9, Bits: 0b100101}) {
			t.Errorf("4, 7 and 9 of %d: %v", k, x)
		}
		for other := uint64(1); other <= api.MaxClients; other++ {
			if done.Has(x, other, 7) != (other == k) {
				t.Errorf("7 of %d is asked of %d", k, other)
			}
		}
	}
}

func TestClientsThatAreNone(t *testing.T) {
	var all done.Table
	for i := range all {
		all[i] = done.Client{Top: 40, Bits: math.MaxUint16}
	}
	for _, x := range []done.Table{{}, all, adds(t, "some", done.Table{}, 1, 1, 2, 20)} {
		for _, k := range noClients {
			for _, req := range []uint64{0, 1, 2, 20, 24, 25, 40, 41, 1 << 40, greatest} {
				if done.Has(x, k, req) || done.Old(x, k, req) {
					t.Errorf("%d of %d: has %v, old %v", req, k, done.Has(x, k, req), done.Old(x, k, req))
				}
				refuses(t, "no client", x, k, req)
			}
		}
	}
}

func TestHasBitByBit(t *testing.T) {
	for _, top := range tops {
		for bit := range uint64(api.Keep) {
			x := only(5, done.Client{Top: top, Bits: 1 << bit})
			for _, req := range around(top) {
				want := req != 0 && req <= top && top-req == bit
				if done.Has(x, 5, req) != want {
					t.Errorf("%d, of which the bit %d below %d is set: %v", req, bit, top, !want)
				}
			}
			x[4].Bits = ^x[4].Bits
			for _, req := range around(top) {
				want := req != 0 && req <= top && top-req < api.Keep && top-req != bit
				if done.Has(x, 5, req) != want {
					t.Errorf("%d, of which all but the bit %d below %d are set: %v", req, bit, top, !want)
				}
			}
		}
	}
}

func TestOld(t *testing.T) {
	for _, top := range tops {
		for _, bits := range []uint16{0, 1, 1 << 15, math.MaxUint16} {
			x := only(api.MaxClients, done.Client{Top: top, Bits: bits})
			for _, req := range around(top) {
				want := req == 0 || req <= top && top-req >= 16
				if done.Old(x, api.MaxClients, req) != want {
					t.Errorf("%d below %d: %v", req, top, !want)
				}
				if done.Old(x, 1, req) != (req == 0) {
					t.Errorf("%d of one that did nothing: %v", req, req != 0)
				}
			}
		}
	}
}

func TestAddAtEachDistance(t *testing.T) {
	for _, top := range tops[1:] {
		for _, req := range around(top) {
			m := newClients()
			var x done.Table
			for d := uint64(20); d <= 20; d-- { // some of those below it, and then it
				if d < top && (d%3 == 0 || d == 1) {
					m.add(2, top-d)
					x, _ = done.Add(x, 2, top-d)
				}
			}
			m.isSo(t, "ahead of it", x, around(top)...)
			was := x
			y, ok := done.Add(x, 2, req)
			if want := m.add(2, req); ok != want {
				t.Errorf("%d behind %d: %v", req, top, ok)
			}
			m.isSo(t, "behind it", y, append(around(top), around(req)...)...)
			if x != was {
				t.Errorf("%d behind %d: what was handed in is changed", req, top)
			}
			refuses(t, "once more", y, 2, req)
		}
	}
}

func TestAddOfTheFirstRequest(t *testing.T) {
	for _, req := range tops {
		if req == 0 {
			refuses(t, "0", done.Table{}, 1, 0)
			continue
		}
		if x := adds(t, "the first one", done.Table{}, 1, req); x != only(1, done.Client{Top: req, Bits: 1}) {
			t.Errorf("%d: %v", req, x)
		}
	}
}

func TestOldOnesAreLost(t *testing.T) {
	x := adds(t, "the first ones", done.Table{}, 1, 1, 2, 3, 4)
	for _, c := range []struct {
		req  uint64
		bits uint16
	}{{5, 0x1f}, {6, 0x3d}, {16, 0xf001}, {17, 0xe001}, {18, 0xc001}, {19, 0x8001}, {20, 1}, {21, 1}, {36, 1}, {1 << 16, 1}, {1 << 32, 1}, {1<<32 + 4, 1}, {1<<63 + 4, 1}, {greatest, 1}} {
		y := adds(t, "far above", x, 1, c.req)
		if y != only(1, done.Client{Top: c.req, Bits: c.bits}) {
			t.Errorf("1 to 4 and %d: %v", c.req, y)
		}
		for _, req := range []uint64{1, 2, 3, 4} {
			lost := c.req-req >= 16
			if done.Old(y, 1, req) != lost || done.Has(y, 1, req) == lost {
				t.Errorf("%d behind %d: has %v, old %v", req, c.req, done.Has(y, 1, req), done.Old(y, 1, req))
			}
			refuses(t, "one that was done", y, 1, req)
		}
	}
}

func TestAllThatIsKept(t *testing.T) {
	x := done.Table{}
	for req := uint64(1); req <= 40; req++ {
		x = adds(t, "one after the other", x, 4, req)
		refuses(t, "the same one", x, 4, req)
		for old := uint64(1); old <= 41; old++ {
			has, gone := done.Has(x, 4, old), done.Old(x, 4, old)
			if has != (old <= req && old+16 > req) || gone != (old+16 <= req) {
				t.Errorf("%d behind %d: has %v, old %v", old, req, has, gone)
			}
		}
	}
	if x != only(4, done.Client{Top: 40, Bits: math.MaxUint16}) {
		t.Errorf("1 to 40: %v", x)
	}
}

// moved tells exactly which bits a client has behind a request that is done: each one that is set stands for a number, of 0 or less too.
func moved(c done.Client, req uint64) done.Client {
	out := done.Client{Top: max(c.Top, req)}
	number := func(top uint64, bit int64) *big.Int {
		n := new(big.Int).SetUint64(top)
		return n.Sub(n, big.NewInt(bit))
	}
	for bit := range int64(api.Keep) {
		n := number(out.Top, bit)
		set := n.Cmp(new(big.Int).SetUint64(req)) == 0
		for was := range int64(api.Keep) {
			if c.Bits>>was&1 == 1 && number(c.Top, was).Cmp(n) == 0 {
				set = true
			}
		}
		if set {
			out.Bits |= 1 << bit
		}
	}
	return out
}

func TestTablesThatNoCallMade(t *testing.T) {
	for _, top := range tops {
		for _, bits := range []uint16{0, 1, 2, 0x5555, 0xaaaa, 0x8000, 0xfffe, math.MaxUint16} {
			c := done.Client{Top: top, Bits: bits}
			x := only(6, c)
			x[0] = done.Client{Top: 3, Bits: math.MaxUint16}
			for _, req := range around(top) {
				has := req != 0 && req <= top && top-req < 16 && bits>>(top-req)&1 == 1
				old := req == 0 || req <= top && top-req >= 16
				if done.Has(x, 6, req) != has || done.Old(x, 6, req) != old {
					t.Fatalf("%d of %v: has %v, old %v", req, c, !has, !old)
				}
				if has || old {
					refuses(t, "has it, or it is old", x, 6, req)
					continue
				}
				want := x
				want[5] = moved(c, req)
				if y, ok := done.Add(x, 6, req); !ok || y != want {
					t.Fatalf("%d to %v: %v, %v, not %v", req, c, y, ok, want)
				}
			}
		}
	}
}

func TestBitsOfNoRequest(t *testing.T) {
	x := only(1, done.Client{Bits: math.MaxUint16}) // they tell of 0, and of less
	for _, req := range []uint64{0, 1, 2, 15, 16, greatest - 15, greatest - 1, greatest} {
		if done.Has(x, 1, req) || done.Old(x, 1, req) != (req == 0) {
			t.Errorf("%d: has %v, old %v", req, done.Has(x, 1, req), done.Old(x, 1, req))
		}
	}
	refuses(t, "0", x, 1, 0)
	x = adds(t, "3 behind none", x, 1, 3)
	for req := range uint64(20) {
		if done.Has(x, 1, req) != (req == 3) || done.Old(x, 1, req) != (req == 0) {
			t.Errorf("%d behind 3: has %v, old %v", req, done.Has(x, 1, req), done.Old(x, 1, req))
		}
	}
	x = adds(t, "1 and 2", x, 1, 1, 2)
	refuses(t, "0", x, 1, 0)
	refuses(t, "3 again", x, 1, 3)
}

// P14.2

// laid is a table's bytes, as the tests lay them.
func laid(x done.Table) []byte {
	var b []byte
	for _, c := range x {
		b = binary.LittleEndian.AppendUint64(b, c.Top)
		b = binary.LittleEndian.AppendUint16(b, c.Bits)
	}
	return b
}

// great is a table whose fields are all the greatest.
func great() done.Table {
	var x done.Table
	for i := range x {
		x[i] = done.Client{Top: greatest, Bits: math.MaxUint16}
	}
	return x
}

// apart is a table whose bytes are all other ones.
func apart() done.Table {
	var x done.Table
	for i := range x {
		n := uint64(10 * i)
		for k := range uint64(8) {
			x[i].Top |= (n + k + 1) << (8 * k)
		}
		x[i].Bits = uint16(n+9) | uint16(n+10)<<8
	}
	return x
}

func someTable(g *rand.Rand) done.Table {
	var x done.Table
	for i := range x {
		x[i] = done.Client{Top: g.Uint64() >> g.Intn(64), Bits: uint16(g.Uint32())}
	}
	return x
}

func TestBytes(t *testing.T) {
	if b := done.Bytes(done.Table{}); !bytes.Equal(b, make([]byte, size)) {
		t.Errorf("the zero table: %v", b)
	}
	if b := done.Bytes(great()); !bytes.Equal(b, bytes.Repeat([]byte{255}, size)) {
		t.Errorf("the greatest fields: %v", b)
	}
	b := done.Bytes(apart())
	for i := range b {
		if b[i] != byte(i+1) {
			t.Errorf("the byte %d is %d", i, b[i])
		}
	}
	b = done.Bytes(only(2, done.Client{Top: 258, Bits: 0x8001}))
	if len(b) != size || !bytes.Equal(b[10:20], []byte{2, 1, 0, 0, 0, 0, 0, 0, 1, 0x80}) || !bytes.Equal(b[:10], make([]byte, 10)) || !bytes.Equal(b[20:], make([]byte, size-20)) {
		t.Errorf("258 and two bits of the client 2: %v", b)
	}
}

func TestBytesAreMemoryOfTheirOwn(t *testing.T) {
	x := apart()
	p, q := done.Bytes(x), done.Bytes(x)
	clear(p[:cap(p)])
	if !bytes.Equal(q, laid(x)) || x != apart() {
		t.Errorf("memory is shared: %v", q)
	}
}

func TestRead(t *testing.T) {
	for _, x := range []done.Table{{}, great(), apart(), only(1, done.Client{Top: 1, Bits: 1}), only(api.MaxClients, done.Client{Bits: 7})} {
		for _, more := range []int{0, 1, 9, 10, 100} {
			b := append(laid(x), bytes.Repeat([]byte{9}, more)...)
			r := octet.Read(b)
			if got := done.Read(r); got != x || r.Bad() || r.Left() != more {
				t.Errorf("%v, and %d bytes: %v, bad %v, %d left", x, more, got, r.Bad(), r.Left())
			}
		}
	}
}

func TestReadFromWhereTheReaderIs(t *testing.T) {
	b := slices.Concat([]byte{1, 2, 3}, laid(apart()), laid(great()), []byte{4})
	r := octet.Read(b)
	r.Take(3)
	p, q := done.Read(r), done.Read(r)
	if p != apart() || q != great() || r.Left() != 1 || r.Num(1) != 4 || r.End() != api.OK {
		t.Errorf("%v, %v, %d left", p, q, r.Left())
	}
}

func TestReadOfTooFewBytes(t *testing.T) {
	for n := range size {
		for _, x := range []done.Table{great(), apart()} {
			r := octet.Read(laid(x)[:n])
			if got := done.Read(r); got != (done.Table{}) || !r.Bad() {
				t.Errorf("%d bytes: %v, bad %v", n, got, r.Bad())
			}
			if got := done.Read(r); got != (done.Table{}) || !r.Bad() {
				t.Errorf("%d bytes, read again: %v, bad %v", n, got, r.Bad())
			}
		}
	}
}

func TestReadOfBadReaders(t *testing.T) {
	r := octet.Read(laid(great()))
	r.Fail()
	if x := done.Read(r); x != (done.Table{}) || !r.Bad() {
		t.Errorf("a failed one: %v, bad %v", x, r.Bad())
	}
	r = octet.Read(append(laid(great()), 1))
	r.Num(0)
	if x := done.Read(r); x != (done.Table{}) || !r.Bad() {
		t.Errorf("one that is bad: %v, bad %v", x, r.Bad())
	}
	if x := done.Read(nil); x != (done.Table{}) {
		t.Errorf("nil: %v", x)
	}
	plain := &octet.Reader{}
	if x := done.Read(plain); x != (done.Table{}) || !plain.Bad() {
		t.Errorf("a plain one: %v, bad %v", x, plain.Bad())
	}
}

// P14.3

// inOrder is what a table is behind requests, and whether one of them was old when it was done.
func inOrder(t *testing.T, k uint64, reqs []uint64) (done.Table, bool) {
	t.Helper()
	var x done.Table
	for _, req := range reqs {
		if done.Old(x, k, req) {
			return x, true
		}
		x = adds(t, "one after the other", x, k, req)
	}
	return x, false
}

func TestTwoRequestsInBothOrders(t *testing.T) {
	for _, a := range tops[1:] {
		for _, b := range around(a) {
			if b == 0 || a == b {
				continue
			}
			p, oldP := inOrder(t, 1, []uint64{a, b})
			q, oldQ := inOrder(t, 1, []uint64{b, a})
			if oldP != (a > b && a-b >= 16) || oldQ != (b > a && b-a >= 16) {
				t.Errorf("%d and %d: old %v, %v", a, b, oldP, oldQ)
			}
			if !oldP && !oldQ && p != q {
				t.Errorf("%d and %d: %v, and %v", a, b, p, q)
			}
			if oldP && p != only(1, done.Client{Top: a, Bits: 1}) {
				t.Errorf("%d, and %d, which is old: %v", a, b, p)
			}
		}
	}
}

func TestManyRequestsInManyOrders(t *testing.T) {
	g := rand.New(rand.NewSource(14))
	alike := 0
	for range 3000 {
		from, within := g.Uint64()>>g.Intn(60)|1, 1+uint64(g.Intn(24))
		from = min(from, greatest-within)
		var l []uint64
		for range 1 + g.Intn(10) {
			if req := from + g.Uint64()%within; !slices.Contains(l, req) {
				l = append(l, req)
			}
		}
		p, oldP := inOrder(t, 7, l)
		g.Shuffle(len(l), func(i, j int) { l[i], l[j] = l[j], l[i] })
		q, oldQ := inOrder(t, 7, l)
		if oldP || oldQ {
			continue
		}
		alike++
		if p != q {
			t.Fatalf("%v: %v, and %v", l, p, q)
		}
	}
	if alike < 1000 {
		t.Errorf("only %d had none that was old", alike)
	}
}

func TestManyClients(t *testing.T) {
	g := rand.New(rand.NewSource(15))
	for range 100 {
		m, x := newClients(), done.Table{}
		for range 100 {
			k := uint64(g.Intn(api.MaxClients + 2))
			req := uint64(g.Intn(40))
			if c := m[k]; c != nil && g.Intn(2) == 0 {
				req = c.top + uint64(g.Intn(20)) - uint64(min(c.top, uint64(g.Intn(20))))
			}
			want := m.add(k, req)
			y, ok := done.Add(x, k, req)
			if ok != want {
				t.Fatalf("%d of %d to %v: %v", req, k, x, ok)
			}
			m.isSo(t, "one more", y, req, req+1, req+15, req+16, req/2, 0, 1, greatest)
			x = y
		}
	}
}

// P14.4

func TestWhatIsWrittenIsRead(t *testing.T) {
	g := rand.New(rand.NewSource(16))
	for range 2000 {
		x := someTable(g)
		b := done.Bytes(x)
		if !bytes.Equal(b, laid(x)) {
			t.Fatalf("%v: %v", x, b)
		}
		r := octet.Read(b)
		if y := done.Read(r); y != x || r.End() != api.OK {
			t.Fatalf("%v is read as %v, end %d", x, y, int(r.End()))
		}
	}
}

func TestWhatIsReadIsWritten(t *testing.T) {
	g := rand.New(rand.NewSource(17))
	for range 2000 {
		b := make([]byte, size)
		g.Read(b)
		if again := done.Bytes(done.Read(octet.Read(b))); !bytes.Equal(again, b) {
			t.Fatalf("%v is written as %v", b, again)
		}
	}
}
