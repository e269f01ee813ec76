package frame_test

import (
	"bytes"
	"encoding/binary"
	"hash/crc32"
	"math"
	"math/rand"
	"slices"
	"testing"

	"keelson/api"
	"keelson/frame"
)

const greatest = math.MaxUint64

// numbers is numbers of all kinds that a frame may have.
var numbers = []uint64{1, 2, 255, 256, 257, 0xffff, 0x10000, 0x0102030405060708, 1 << 56, 1 << 63, greatest - 1, greatest}

func some(g *rand.Rand, n int) []byte {
	b := make([]byte, n)
	g.Read(b)
	return b
}

// bodyOf is what the pieces hold: the length, the text, the sum, and noughts up to the end of the last piece.
func bodyOf(length uint32, text []byte) []byte {
	b := append(binary.LittleEndian.AppendUint32(nil, length), text...)
	b = binary.LittleEndian.AppendUint32(b, crc32.Checksum(b, crc32.MakeTable(crc32.Castagnoli)))
	for len(b)%48 != 0 {
		b = append(b, 0)
	}
	return b
}

// sectorsOf lays pieces into sectors, as the chapter says.
func sectorsOf(number uint64, body []byte) []byte {
	var b []byte
	for piece := range slices.Chunk(body, 48) {
		b = binary.BigEndian.AppendUint64(b, number)
		b = append(b, piece...)
		b = binary.LittleEndian.AppendUint64(b, number)
	}
	return b
}

// frameOf is the tests' own frame.
func frameOf(number uint64, text []byte) []byte {
	return sectorsOf(number, bodyOf(uint32(len(text)), text))
}

func ends(sector []byte) (head, tail uint64) {
	return binary.BigEndian.Uint64(sector), binary.LittleEndian.Uint64(sector[56:64])
}

// told is what Read promises, error by error.
func told(b []byte) (uint64, []byte, api.Errno) {
	if len(b) < 64 {
		return 0, nil, api.ErrForm
	}
	number, tail := ends(b)
	if number != tail {
		return 0, nil, api.ErrTorn
	}
	if number == 0 {
		return 0, nil, api.ErrNone
	}
	n := int(binary.LittleEndian.Uint32(b[8:]))
	if n > api.MaxFrame {
		return 0, nil, api.ErrLong
	}
	count := (n + 8 + 47) / 48
	if len(b)/64 < count {
		return 0, nil, api.ErrForm
	}
	var body []byte
	for i := range count {
		s := b[64*i:][:64]
		if head, tail := ends(s); head != number || tail != number {
			return 0, nil, api.ErrTorn
		}
		body = append(body, s[8:56]...)
	}
	sum := crc32.Checksum(body[:4+n], crc32.MakeTable(crc32.Castagnoli))
	if binary.LittleEndian.Uint32(body[4+n:]) != sum {
		return 0, nil, api.ErrSum
	}
	if !bytes.Equal(body[8+n:], make([]byte, len(body)-8-n)) {
		return 0, nil, api.ErrForm
	}
	return number, body[4 : 4+n], api.OK
}

func made(t *testing.T, number uint64, text []byte) []byte {
	t.Helper()
	b, e := frame.Make(number, text)
	if e != api.OK {
		t.Fatalf("the frame %d of %d bytes: %d", number, len(text), int(e))
	}
	return b
}

func reads(t *testing.T, what string, b []byte, number uint64, text []byte) {
	t.Helper()
	n, got, e := frame.Read(b)
	if e != api.OK || n != number || !bytes.Equal(got, text) {
		t.Errorf("%s: the frame %d of %d bytes, %d", what, n, len(got), int(e))
	}
}

func refuses(t *testing.T, what string, b []byte, want api.Errno) {
	t.Helper()
	n, got, e := frame.Read(b)
	if e != want || n != 0 || len(got) != 0 {
		t.Errorf("%s: the frame %d of %d bytes, %d, not %d", what, n, len(got), int(e), int(want))
	}
}

// with is b with the bytes from at on being others.
func with(b []byte, at int, l ...byte) []byte {
	b = bytes.Clone(b)
	copy(b[at:], l)
	return b
}

// renumbered is b with another number at both ends of a sector.
func renumbered(b []byte, sector int, number uint64) []byte {
	b = bytes.Clone(b)
	binary.BigEndian.PutUint64(b[64*sector:], number)
	binary.LittleEndian.PutUint64(b[64*sector+56:], number)
	return b
}

// P5.1

func TestPiece(t *testing.T) {
	if frame.Piece != 48 || frame.Piece+16 != api.SectorLen {
		t.Error(frame.Piece)
	}
}

func TestSectors(t *testing.T) {
	for _, c := range []struct{ n, count int }{
		{0, 1}, {1, 1}, {39, 1}, {40, 1}, {41, 2}, {87, 2}, {88, 2}, {89, 3}, {136, 3}, {137, 4},
		{api.MaxFrame - 1, 1366}, {api.MaxFrame, 1366},
		{api.MaxFrame + 1, 0}, {math.MaxInt, 0}, {math.MaxInt - 7, 0}, {-1, 0}, {-8, 0}, {-48, 0}, {math.MinInt, 0},
	} {
		if count := frame.Sectors(c.n); count != c.count {
			t.Errorf("%d bytes: %d sectors", c.n, count)
		}
	}
}

func TestSectorsAreAsFewAsHoldIt(t *testing.T) {
	for n := range api.MaxFrame + 1 {
		if room := frame.Sectors(n)*48 - 8; room < n || room-48 >= n {
			t.Fatalf("%d bytes: %d sectors", n, frame.Sectors(n))
		}
	}
}

func TestMakeLaysSectors(t *testing.T) {
	b := made(t, 0x0102030405060708, []byte("ab"))
	want := []byte("\x01\x02\x03\x04\x05\x06\x07\x08\x02\x00\x00\x00ab")
	want = binary.LittleEndian.AppendUint32(want, crc32.Checksum([]byte("\x02\x00\x00\x00ab"), crc32.MakeTable(crc32.Castagnoli)))
	want = append(want, make([]byte, 38)...)
	want = append(want, "\x08\x07\x06\x05\x04\x03\x02\x01"...)
	if !bytes.Equal(b, want) {
		t.Errorf("%x", b)
	}
}

func TestMakeOfTextsAndNumbers(t *testing.T) {
	g := rand.New(rand.NewSource(1))
	for _, n := range []int{0, 1, 39, 40, 41, 47, 48, 88, 89, 200, api.MaxText, api.MaxFrame - 1, api.MaxFrame} {
		text := some(g, n)
		for _, number := range numbers {
			b := made(t, number, text)
			if len(b) != 64*frame.Sectors(n) || !bytes.Equal(b, frameOf(number, text)) {
				t.Errorf("the frame %d of %d bytes is another one", number, n)
			}
		}
	}
	if b := made(t, 1, nil); !bytes.Equal(b, frameOf(1, nil)) {
		t.Errorf("of nothing: %x", b)
	}
}

func TestMakeOfWrongOnes(t *testing.T) {
	long := make([]byte, api.MaxFrame+1)
	for _, c := range []struct {
		number uint64
		text   []byte
		e      api.Errno
	}{
		{0, nil, api.ErrArg}, {0, []byte("ab"), api.ErrArg}, {0, long, api.ErrArg},
		{1, long, api.ErrLong}, {greatest, long, api.ErrLong}, {1, make([]byte, 4*api.MaxFrame), api.ErrLong},
	} {
		if b, e := frame.Make(c.number, c.text); e != c.e || len(b) != 0 {
			t.Errorf("the frame %d of %d bytes: %d bytes, %d", c.number, len(c.text), len(b), int(e))
		}
	}
}

func TestMakesMemoryIsItsOwn(t *testing.T) {
	for _, n := range []int{0, 2, 40, 41} {
		room := some(rand.New(rand.NewSource(2)), 80)
		kept := bytes.Clone(room)
		b := made(t, 7, room[:n])
		want := bytes.Clone(b)
		if !bytes.Equal(room, kept) {
			t.Fatalf("what was handed in is %x", room)
		}
		clear(room)
		if !bytes.Equal(b, want) {
			t.Errorf("%d bytes: what was handed out is %x", n, b)
		}
		copy(room, kept)
		clear(b[:cap(b)])
		if !bytes.Equal(room, kept) {
			t.Errorf("%d bytes: what was handed in is %x", n, room)
		}
	}
}

// P5.2

func TestEnds(t *testing.T) {
	b := make([]byte, 128)
	for i := range b {
		b[i] = byte(i + 1)
	}
	for _, n := range []int{64, 65, 127, 128} {
		if head, tail := frame.Ends(b[:n]); head != 0x0102030405060708 || tail != 0x403f3e3d3c3b3a39 {
			t.Errorf("%d bytes: %x and %x", n, head, tail)
		}
	}
	for _, n := range []int{0, 1, 8, 56, 63} {
		if head, tail := frame.Ends(b[:n]); head != 0 || tail != 0 {
			t.Errorf("%d bytes: %x and %x", n, head, tail)
		}
	}
	if head, tail := frame.Ends(nil); head != 0 || tail != 0 {
		t.Errorf("nil: %x and %x", head, tail)
	}
	for _, number := range numbers {
		if head, tail := frame.Ends(made(t, number, nil)); head != number || tail != number {
			t.Errorf("the frame %d: %d and %d", number, head, tail)
		}
	}
}

func TestMost(t *testing.T) {
	b := make([]byte, 5*64)
	if n := frame.Most(b); n != 0 {
		t.Errorf("noughts: %d", n)
	}
	for sector := range 5 {
		for _, number := range numbers {
			c := renumbered(b, sector, number)
			if n := frame.Most(c); n != number {
				t.Errorf("%d in the sector %d: %d", number, sector, n)
			}
			clear(c[64*sector+56:][:8])
			if n := frame.Most(c); n != number {
				t.Errorf("%d at the head of the sector %d: %d", number, sector, n)
			}
			c = renumbered(b, sector, number)
			clear(c[64*sector:][:8])
			if n := frame.Most(c); n != number {
				t.Errorf("%d at the tail of the sector %d: %d", number, sector, n)
			}
		}
	}
}

func TestMostOfMany(t *testing.T) {
	g := rand.New(rand.NewSource(3))
	for range 300 {
		b := some(g, g.Intn(64*6))
		var most uint64
		for s := b; len(s) >= 64; s = s[64:] {
			head, tail := ends(s)
			most = max(most, head, tail)
		}
		if n := frame.Most(b); n != most {
			t.Fatalf("%x: %d, not %d", b, n, most)
		}
	}
}

func TestMostLeavesOutWhatIsNoSector(t *testing.T) {
	if n := frame.Most(nil); n != 0 {
		t.Errorf("nil: %d", n)
	}
	full := bytes.Repeat([]byte{255}, 128)
	for n := range 64 {
		if most := frame.Most(full[:n]); most != 0 {
			t.Errorf("%d bytes: %d", n, most)
		}
		if most := frame.Most(append(made(t, 5, nil), full[:n]...)); most != 5 {
			t.Errorf("a frame and %d bytes: %d", n, most)
		}
	}
	if most := frame.Most(append(made(t, 5, nil), full[:64]...)); most != greatest {
		t.Errorf("a frame and a sector: %d", most)
	}
}

// P5.3

func TestReadOfTooFewBytes(t *testing.T) {
	refuses(t, "nil", nil, api.ErrForm)
	for _, b := range [][]byte{make([]byte, 63), bytes.Repeat([]byte{255}, 63), made(t, 1, nil)[:63]} {
		for n := range 64 {
			refuses(t, "less than a sector", b[:n], api.ErrForm)
		}
	}
	refuses(t, "with spare room", made(t, 1, nil)[:63], api.ErrForm)
	for _, text := range []int{41, 88, 89, 1000, api.MaxFrame} {
		b := made(t, 9, make([]byte, text))
		for _, n := range []int{64, 65, len(b) - 64, len(b) - 63, len(b) - 1} {
			if n < len(b) {
				refuses(t, "fewer than it tells of", b[:n], api.ErrForm)
			}
		}
	}
}

func TestReadOfAFirstSectorThatIsNotWhole(t *testing.T) {
	for _, text := range []string{"", "ab", "a text that has more bytes than one sector has room for"} {
		b := made(t, 0x0102030405060708, []byte(text))
		for i := range 8 {
			for bit := range 8 {
				refuses(t, "a turned head", with(b, i, b[i]^1<<bit), api.ErrTorn)
				refuses(t, "a turned tail", with(b, 56+i, b[56+i]^1<<bit), api.ErrTorn)
			}
		}
		refuses(t, "no head", with(b, 0, make([]byte, 8)...), api.ErrTorn)
		refuses(t, "no tail", with(b, 56, make([]byte, 8)...), api.ErrTorn)
		refuses(t, "a tail as the head is", with(b, 56, b[:8]...), api.ErrTorn)
	}
}

func TestReadOfTheNumberZero(t *testing.T) {
	refuses(t, "noughts", make([]byte, 64), api.ErrNone)
	refuses(t, "many noughts", make([]byte, 64*9), api.ErrNone)
	refuses(t, "a frame of the number 0", frameOf(0, []byte("ab")), api.ErrNone)
	refuses(t, "a long one", frameOf(0, make([]byte, 99)), api.ErrNone)
}

func TestReadOfALengthAboveTheLimit(t *testing.T) {
	for _, n := range []uint32{api.MaxFrame + 1, 1 << 17, 1 << 24, 1<<31 - 1, 1 << 31, math.MaxUint32} {
		refuses(t, "one sector", sectorsOf(3, bodyOf(n, nil)), api.ErrLong)
		refuses(t, "many sectors", sectorsOf(3, bodyOf(n, make([]byte, api.MaxFrame+1))), api.ErrLong)
	}
	refuses(t, "at the limit", sectorsOf(3, bodyOf(api.MaxFrame, nil)), api.ErrForm)
	b := frameOf(3, make([]byte, api.MaxFrame+1))
	refuses(t, "one more, all there", b, api.ErrLong)
}

func TestReadOfALaterSector(t *testing.T) {
	const number = 0x0102030405060708
	b := made(t, number, bytes.Repeat([]byte("text"), 40))
	for sector := 1; sector < len(b)/64; sector++ {
		at := 64 * sector
		for i := range 8 {
			refuses(t, "a turned head", with(b, at+i, b[at+i]^1), api.ErrTorn)
			refuses(t, "a turned tail", with(b, at+56+i, b[at+56+i]^1), api.ErrTorn)
		}
		for _, other := range []uint64{0, 1, number - 1, number + 1, greatest} {
			refuses(t, "another number", renumbered(b, sector, other), api.ErrTorn)
		}
		refuses(t, "noughts", with(b, at, make([]byte, 64)...), api.ErrTorn)
	}
	refuses(t, "another first number", renumbered(b, 0, number+1), api.ErrTorn)
}

func TestReadOfATurnedBit(t *testing.T) {
	g := rand.New(rand.NewSource(4))
	for _, n := range []int{0, 1, 30, 40, 41, 44, 80} {
		body := bodyOf(uint32(n), some(g, n))
		for at := 4; at < len(body); at++ {
			want := api.ErrSum
			if at >= 8+n {
				want = api.ErrForm
			}
			for bit := range 8 {
				turned := with(body, at, body[at]^1<<bit)
				refuses(t, "a turned bit", sectorsOf(6, turned), want)
			}
		}
	}
}

func TestReadOfATurnedLength(t *testing.T) {
	g := rand.New(rand.NewSource(5))
	for _, n := range []int{0, 1, 40, 41, 200} {
		b := frameOf(8, some(g, n))
		for bit := range 32 {
			turned := with(b, 8+bit/8, b[8+bit/8]^1<<(bit%8))
			want := api.ErrSum
			switch said := n ^ 1<<bit; {
			case said > api.MaxFrame:
				want = api.ErrLong
			case frame.Sectors(said) > len(b)/64:
				want = api.ErrForm
			}
			refuses(t, "a turned length", turned, want)
		}
	}
}

func TestReadNamesTheFirstErrorOfMany(t *testing.T) {
	long := sectorsOf(5, bodyOf(api.MaxFrame+1, nil))
	b := made(t, 5, make([]byte, 50))
	worse := with(b, 12, 1)        // the sum does not fit
	worst := with(worse, 64+55, 1) // nor are there noughts
	refuses(t, "few, and torn", with(long, 0, 9)[:63], api.ErrForm)
	refuses(t, "torn, and long", with(long, 0, 9), api.ErrTorn)
	refuses(t, "torn, its head being 0", with(long, 0, make([]byte, 8)...), api.ErrTorn)
	refuses(t, "none, and long", renumbered(long, 0, 0), api.ErrNone)
	refuses(t, "none, and few", renumbered(b, 0, 0)[:64], api.ErrNone)
	refuses(t, "long, and few", long, api.ErrLong)
	refuses(t, "few, and torn behind", with(b, 64, 9)[:127], api.ErrForm)
	refuses(t, "torn behind, and a wrong sum", with(worse, 64, 9), api.ErrTorn)
	refuses(t, "torn behind, and no noughts", with(b, 64+55, 1, 9), api.ErrTorn)
	refuses(t, "a wrong sum, and no noughts", worst, api.ErrSum)
	refuses(t, "no noughts", with(b, 64+55, 1), api.ErrForm)
}

func TestReadsMemoryIsItsOwn(t *testing.T) {
	for _, n := range []int{1, 40, 41, 100} {
		text := bytes.Repeat([]byte("x"), n)
		b := made(t, 4, text)
		kept := bytes.Clone(b)
		_, got, e := frame.Read(b)
		if e != api.OK || !bytes.Equal(b, kept) {
			t.Fatalf("%d bytes: %d, what was handed in is %x", n, int(e), b)
		}
		clear(b)
		if !bytes.Equal(got, text) {
			t.Errorf("%d bytes: what was handed out is %q", n, got)
		}
		copy(b, kept)
		clear(got[:cap(got)])
		if !bytes.Equal(b, kept) {
			t.Errorf("%d bytes: what was handed in is %x", n, b)
		}
	}
}

// spoilt is b with a few things changed in it, or cut off.
func spoilt(g *rand.Rand, b []byte) []byte {
	b = bytes.Clone(b)
	for range 1 + g.Intn(3) {
		sector := g.Intn(len(b) / 64)
		switch g.Intn(6) {
		case 0:
			b[g.Intn(len(b))] ^= 1 << g.Intn(8)
		case 1:
			b = renumbered(b, sector, uint64(g.Intn(4)))
		case 2:
			b[8+g.Intn(2)] = byte(g.Intn(256))
		case 3:
			copy(b[64*sector:], make([]byte, g.Intn(65)))
		case 4:
			b[64*sector+55-g.Intn(4)] = byte(g.Intn(2))
		case 5:
			b = append(b, some(g, g.Intn(70))...)
		}
	}
	return b[:len(b)-g.Intn(2)*g.Intn(1+len(b)/2)]
}

func TestReadIsAsTold(t *testing.T) {
	g := rand.New(rand.NewSource(6))
	seen := map[api.Errno]int{}
	for range 60000 {
		b := spoilt(g, frameOf(uint64(1+g.Intn(3)), some(g, g.Intn(150))))
		number, text, e := frame.Read(b)
		n, s, want := told(b)
		if number != n || e != want || !bytes.Equal(text, s) {
			t.Fatalf("%x: %d %x %d, not %d %x %d", b, number, text, int(e), n, s, int(want))
		}
		seen[e]++
	}
	for _, e := range []api.Errno{api.OK, api.ErrForm, api.ErrTorn, api.ErrNone, api.ErrLong, api.ErrSum} {
		if seen[e] == 0 {
			t.Errorf("%d was never told", int(e))
		}
	}
}

// P5.4

func TestWhatIsMadeIsRead(t *testing.T) {
	g := rand.New(rand.NewSource(7))
	for n := range 300 {
		text := some(g, n)
		number := numbers[n%len(numbers)]
		b := made(t, number, text)
		reads(t, "a frame", b, number, text)
		reads(t, "noughts of text", made(t, number, make([]byte, n)), number, make([]byte, n))
	}
	for _, n := range []int{api.MaxText, api.MaxFrame - 1, api.MaxFrame} {
		text := some(g, n)
		reads(t, "a great one", made(t, greatest, text), greatest, text)
	}
}

func TestWhatStandsBehindIsNotRead(t *testing.T) {
	g := rand.New(rand.NewSource(8))
	for _, n := range []int{0, 40, 41, 88, 300, api.MaxFrame} {
		text := some(g, n)
		b := made(t, 5, text)
		for _, more := range [][]byte{{0}, {255}, make([]byte, 63), make([]byte, 64), some(g, 64), some(g, 1000), b, frameOf(5, nil), frameOf(greatest, text)} {
			reads(t, "with more behind", slices.Concat(b, more), 5, text)
		}
	}
}

// P5.5

// begun tells what lies there, once of each sector of b a beginning alone came to be: so many bytes.
func begun(there, b []byte, keep []int) []byte {
	there = bytes.Clone(there)
	for i, n := range keep {
		copy(there[64*i:], b[64*i:][:n])
	}
	return there
}

// laid tells a frame with noughts behind it, up to so many sectors.
func laid(b []byte, sectors int) []byte {
	return append(bytes.Clone(b), make([]byte, max(0, 64*sectors-len(b)))...)
}

// torn reads what lies there once a newer frame came to be in part over an older one (or over noughts: of the number 0).
func torn(t *testing.T, there, newer []byte, keep []int) {
	t.Helper()
	b := begun(there, newer, keep)
	number, text, e := frame.Read(b)
	switch e {
	case api.ErrTorn, api.ErrNone:
		if number != 0 || len(text) != 0 {
			t.Fatalf("beginnings of %v: %d %q beside an error", keep, number, text)
		}
	case api.OK:
		for _, whole := range [][]byte{there, newer} {
			if n, s, e := told(whole); e == api.OK && n == number && bytes.Equal(s, text) {
				return
			}
		}
		t.Fatalf("beginnings of %v: %d %q is neither", keep, number, text)
	default:
		t.Fatalf("beginnings of %v: %d", keep, int(e))
	}
}

// pairs is numbers, the first one being less than the second one, which share bytes at either end, or none.
var pairs = [][2]uint64{
	{0, 1}, {0, 256}, {0, 1 << 63}, {0, greatest}, {1, 2}, {255, 256}, {0xff, 0x1ff}, {0x1ff, 0x200},
	{0xffffffff, 1 << 32}, {1<<56 - 1, 1 << 56}, {0x0100, 0x01000000}, {7, 7 << 56}, {1, 1<<63 + 1},
	{0x0101010101010101, 0x0201010101010101}, {0x0102030405060708, 0x0102030405060709}, {greatest - 1, greatest},
}

// older tells what lies there first: a frame of the first number of a pair, or noughts.
func older(number uint64, n, sectors int) []byte {
	if number == 0 {
		return make([]byte, 64*sectors)
	}
	return laid(frameOf(number, bytes.Repeat([]byte("old "), n)[:n]), sectors)
}

func TestTornInOneSector(t *testing.T) {
	for _, p := range pairs {
		for _, n := range []int{0, 40, 41, 100} {
			there := older(p[0], n, 3)
			newer := made(t, p[1], []byte("new text"))
			for k := range 65 {
				torn(t, there, newer, []int{k})
			}
			reads(t, "all of it", begun(there, newer, []int{64}), p[1], []byte("new text"))
		}
	}
}

func TestTornInTwoSectors(t *testing.T) {
	text := bytes.Repeat([]byte("new "), 20)
	for _, p := range pairs {
		for _, n := range []int{0, 41, 100} {
			there := older(p[0], n, 3)
			newer := made(t, p[1], text)
			for k := range 65 {
				for m := range 65 {
					torn(t, there, newer, []int{k, m})
				}
			}
			reads(t, "all of it", begun(there, newer, []int{64, 64}), p[1], text)
		}
	}
}

func TestTornInManySectors(t *testing.T) {
	g := rand.New(rand.NewSource(9))
	for _, p := range pairs {
		for range 400 {
			text := some(g, 100+g.Intn(300))
			newer := made(t, p[1], text)
			keep := make([]int, len(newer)/64)
			for i := range keep {
				keep[i] = []int{0, 64, 64, g.Intn(65)}[g.Intn(4)]
			}
			there := older(p[0], g.Intn(400), 9)
			torn(t, there, newer, keep)
		}
	}
}

func TestTornWithTheSameText(t *testing.T) {
	text := bytes.Repeat([]byte("text"), 30)
	for _, p := range pairs[4:] {
		there, newer := made(t, p[0], text), made(t, p[1], text)
		for k := range 65 {
			torn(t, there, newer, []int{k, 64, 64})
			torn(t, there, newer, []int{64, k, 64})
			torn(t, there, newer, []int{64, 64, k})
			torn(t, there, newer, []int{k, 0, 0})
		}
		refuses(t, "a sector of each", begun(there, newer, []int{64, 0, 64}), api.ErrTorn)
	}
}
