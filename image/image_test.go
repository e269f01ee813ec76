package image_test

import (
	"bytes"
	"encoding/binary"
	"hash/crc32"
	"math"
	"math/rand"
	"strings"
	"testing"

	"keelson/api"
	"keelson/done"
	"keelson/image"
)

const (
	greatest = math.MaxUint64
	limit    = api.MaxIndex - api.MaxMarks // the greatest number that may be marked
	around   = 8 + 8 + 2 + 80 + 4          // bytes that a text has around the blocks
)

// text is n bytes that are no noughts, other ones for each first one.
func text(first, n int) string {
	b := make([]byte, n)
	for i := range b {
		b[i] = byte(1 + (first*17+i)%250)
	}
	return string(b)
}

// table is a table whose bytes are all other ones.
func table() done.Table {
	var x done.Table
	for i := range x {
		n := uint64(10 * i)
		for k := range uint64(8) {
			x[i].Top |= (n + k + 1) << (8 * k)
		}
		x[i].Bits = uint16(n+9) | uint16(n+10)<<8
	}
	return x
}

// of is an image of so many blocks, each field of which has something.
func of(blocks int) image.Image {
	return image.Image{Marks: api.Marks{Low: 0x0102030405060708, Bits: 0xf1e2d3c4b5a69788}, Blocks: text(3, 8*blocks), Done: table()}
}

// body is what is sealed of an image, be it good or not, as the tests lay it.
func body(i image.Image) []byte {
	b := binary.LittleEndian.AppendUint64(nil, i.Marks.Low)
	b = binary.LittleEndian.AppendUint64(b, i.Marks.Bits)
	b = binary.LittleEndian.AppendUint16(b, uint16(len(i.Blocks)))
	b = append(b, i.Blocks...)
	for _, c := range i.Done {
		b = binary.LittleEndian.AppendUint64(b, c.Top)
		b = binary.LittleEndian.AppendUint16(b, c.Bits)
	}
	return b
}

// sealed is bytes, and their sum, by another hand than the program's.
func sealed(b []byte) string {
	sum := crc32.Checksum(b, crc32.MakeTable(crc32.Castagnoli))
	return string(binary.LittleEndian.AppendUint32(bytes.Clone(b), sum))
}

// marked is marks, and whether they are good.
var marked = []struct {
	api.Marks
	good bool
}{
	{api.Marks{}, true},
	{api.Marks{Low: 7}, true},
	{api.Marks{Low: 7, Bits: 2}, true},
	{api.Marks{Bits: 1 << 63}, true},
	{api.Marks{Bits: greatest - 1}, true},
	{api.Marks{Bits: 1}, false},
	{api.Marks{Low: 7, Bits: 3}, false},
	{api.Marks{Low: 7, Bits: greatest}, false},
	{api.Marks{Low: limit}, true},
	{api.Marks{Low: limit, Bits: 1}, false},
	{api.Marks{Low: limit, Bits: 2}, false},
	{api.Marks{Low: limit - 1}, true},
	{api.Marks{Low: limit - 1, Bits: 2}, false},
	{api.Marks{Low: limit - 2, Bits: 2}, true},
	{api.Marks{Low: limit - 64, Bits: 1 << 63}, true},
	{api.Marks{Low: limit - 63, Bits: 1 << 63}, false},
	{api.Marks{Low: limit + 1}, false},
	{api.Marks{Low: api.MaxIndex}, false},
	{api.Marks{Low: greatest}, false},
	{api.Marks{Low: greatest, Bits: greatest}, false},
}

// P15.1

// isMade tells whether an image is good, or not, in each call that asks for that.
func isMade(t *testing.T, i image.Image, good bool) {
	t.Helper()
	if image.Good(i) != good {
		t.Errorf("%d bytes, %+v: good is %v", len(i.Blocks), i.Marks, !good)
	}
	got, e := image.Make(i)
	if good && (got != sealed(body(i)) || e != api.OK) {
		t.Errorf("%d bytes, %+v: %d, %q", len(i.Blocks), i.Marks, int(e), got)
	}
	if !good && (got != "" || e != api.ErrArg) {
		t.Errorf("%d bytes, %+v, which is not good: %d, %q", len(i.Blocks), i.Marks, int(e), got)
	}
}

func TestMarksThatAreGoodAndThatAreNot(t *testing.T) {
	for _, m := range marked {
		for _, blocks := range []int{0, 1, 64, 65} {
			i := of(blocks)
			i.Marks = m.Marks
			isMade(t, i, m.good && blocks != 0 && blocks != 65)
		}
	}
}

func TestBlocksOfEachLength(t *testing.T) {
	for n := range 8*65 + 9 {
		isMade(t, image.Image{Blocks: text(1, n)}, n%8 == 0 && n >= 8 && n <= 8*64)
	}
	for _, n := range []int{8 * 128, 8*256 - 8, 8 * 256, 8*256 + 8, api.MaxText - 8, api.MaxText, api.MaxText + 8, 1 << 16, 1<<16 + 8, 1<<16 + 16} {
		isMade(t, image.Image{Blocks: text(1, n)}, false)
	}
}

func TestAnyTableIsGood(t *testing.T) {
	for _, client := range []done.Client{{}, {Top: 1}, {Bits: math.MaxUint16}, {Top: greatest, Bits: math.MaxUint16}} {
		i := image.Image{Blocks: text(1, 8)}
		for k := range i.Done {
			i.Done[k] = client
			isMade(t, i, true)
		}
	}
}

func TestTheZeroImageIsNotGood(t *testing.T) {
	isMade(t, image.Image{}, false)
}

func TestTheExample(t *testing.T) {
	got, e := image.Make(image.Image{Blocks: strings.Repeat("\x00", 16)})
	if len(got) != 118 || e != api.OK {
		t.Errorf("of two blocks: %d bytes, %d", len(got), int(e))
	}
}

func TestMakeByteByByte(t *testing.T) {
	i := of(2)
	got, e := image.Make(i)
	want := []byte{8, 7, 6, 5, 4, 3, 2, 1, 0x88, 0x97, 0xa6, 0xb5, 0xc4, 0xd3, 0xe2, 0xf1, 16, 0}
	want = append(want, i.Blocks...)
	for k := range 80 {
		want = append(want, byte(k+1))
	}
	if e != api.OK || got != sealed(want) {
		t.Errorf("%d: %v, not %v", int(e), []byte(got), want)
	}
	for blocks := 1; blocks <= 64; blocks++ {
		if got, e := image.Make(of(blocks)); e != api.OK || len(got) != around+8*blocks {
			t.Errorf("of %d blocks: %d bytes, %d", blocks, len(got), int(e))
		}
	}
}

// reads tells whether a text has just this error, and nothing else.
func reads(t *testing.T, what, s string, want api.Errno) {
	t.Helper()
	if got, e := image.Read(s); e != want || got != (image.Image{}) {
		t.Errorf("%s: %d, not %d: %+v", what, int(e), int(want), got)
	}
}

func TestReadOfWhatWasMade(t *testing.T) {
	for _, m := range marked {
		for _, blocks := range []int{1, 2, 63, 64} {
			i := of(blocks)
			i.Marks = m.Marks
			s, e := image.Make(i)
			if e != api.OK {
				continue
			}
			if got, e := image.Read(s); got != i || e != api.OK {
				t.Errorf("%d: %+v, not %+v", int(e), got, i)
			}
		}
	}
}

func TestATextWithOneByteTurned(t *testing.T) {
	s, _ := image.Make(of(3))
	for k := range s {
		for _, turn := range []byte{1, 0x80, 0xff} {
			b := []byte(s)
			b[k] ^= turn
			reads(t, "a byte is turned", string(b), api.ErrSum)
		}
	}
}

func TestATextThatIsCutOrGoesOn(t *testing.T) {
	s, _ := image.Make(of(3))
	for n := range s {
		want := api.ErrSum
		if n < 4 {
			want = api.ErrForm
		}
		reads(t, "its beginning alone", s[:n], want)
	}
	for _, more := range []string{"\x00", "a", "\xff", "\x00\x00\x00\x00", s} {
		reads(t, "something behind", s+more, api.ErrSum)
		reads(t, "something ahead", more+s, api.ErrSum)
	}
	reads(t, "no byte", "", api.ErrForm)
	reads(t, "three bytes", "\x00\x00\x00", api.ErrForm)
	reads(t, "four bytes, which are no sum", "\x01\x00\x00\x00", api.ErrSum)
	reads(t, "nothing, sealed", sealed(nil), api.ErrForm)
}

func TestWhatIsSealedAndNoImage(t *testing.T) {
	b := body(of(2))
	for n := range b {
		reads(t, "too little", sealed(b[:n]), api.ErrForm)
		reads(t, "too little ahead", sealed(b[n+1:]), api.ErrForm)
	}
	for n := 1; n < 100; n++ {
		reads(t, "too much", sealed(append(bytes.Clone(b), make([]byte, n)...)), api.ErrForm)
	}
	for n := range 1 << 16 {
		if n == 16 {
			continue
		}
		binary.LittleEndian.PutUint16(b[16:], uint16(n))
		reads(t, "another length of the blocks", sealed(b), api.ErrForm)
	}
}

func TestWhatIsSealedAndNotGood(t *testing.T) {
	for _, m := range marked {
		i := of(2)
		i.Marks = m.Marks
		got, e := image.Read(sealed(body(i)))
		if m.good && (got != i || e != api.OK) || !m.good && (got != image.Image{} || e != api.ErrForm) {
			t.Errorf("%+v: %d, %+v", m, int(e), got)
		}
	}
	for n := range 8*65 + 9 {
		i := image.Image{Blocks: text(1, n)}
		got, e := image.Read(sealed(body(i)))
		if good := n%8 == 0 && n >= 8 && n <= 8*64; good && (got != i || e != api.OK) || !good && (got != image.Image{} || e != api.ErrForm) {
			t.Errorf("blocks of %d bytes: %d, %+v", n, int(e), got)
		}
	}
	for _, n := range []int{api.MaxText, api.MaxText + 8, 1<<16 - 8} {
		reads(t, "far too many blocks", sealed(body(image.Image{Blocks: text(1, n)})), api.ErrForm)
	}
}

// P15.2

func TestBlock(t *testing.T) {
	for _, blocks := range []int{0, 1, 2, 63, 64, 65, 300} { // one that is not good has blocks, too
		for more := range 8 {
			i := image.Image{Blocks: text(5, 8*blocks+more)}
			for n := range blocks {
				if got := image.Block(i, uint32(n)); got != i.Blocks[8*n:8*n+8] {
					t.Errorf("the block %d of %d: %q", n, blocks, got)
				}
			}
			for _, n := range []uint32{uint32(blocks), uint32(blocks) + 1, 1000, 1 << 28, 1 << 29, 1<<29 + 1, 1 << 31, math.MaxUint32 - 1, math.MaxUint32} {
				if got := image.Block(i, n); got != "" {
					t.Errorf("the block %d of %d, and %d bytes: %q", n, blocks, more, got)
				}
			}
		}
	}
}

// put is what Put should tell, block by block.
func put(i image.Image, s api.Span, data string) (image.Image, api.Errno) {
	blocks := uint64(len(i.Blocks) / 8)
	if s.Count == 0 || uint64(s.From)+uint64(s.Count) > blocks {
		return i, api.ErrRange
	}
	if uint64(len(data)) != 8*uint64(s.Count) {
		return i, api.ErrArg
	}
	b := []byte(i.Blocks)
	for k := range data {
		b[8*int(s.From)+k] = data[k]
	}
	i.Blocks = string(b)
	return i, api.OK
}

// puts tells whether Put does as it should, and leaves what was handed in.
func puts(t *testing.T, i image.Image, s api.Span, data string) {
	t.Helper()
	was := i
	was.Blocks = strings.Clone(i.Blocks)
	want, wrong := put(i, s, data)
	if got, e := image.Put(i, s, data); got != want || e != wrong {
		t.Errorf("%d bytes to %+v of %d: %d, not %d: %q, not %q", len(data), s, len(i.Blocks), int(e), int(wrong), got.Blocks, want.Blocks)
	}
	if i != was {
		t.Errorf("%d bytes to %+v of %d: what was handed in is changed", len(data), s, len(i.Blocks))
	}
}

func TestPutOfEachSpan(t *testing.T) {
	for blocks := range 12 {
		for from := range uint32(14) {
			for count := range uint32(14) {
				n := int(count) * 8
				for _, size := range []int{n, n + 1, n + 8, max(n-1, 0), max(n-8, 0), 0} {
					puts(t, of(blocks), api.Span{From: from, Count: count}, text(9, size))
				}
			}
		}
	}
}

func TestPutAtTheBounds(t *testing.T) {
	numbers := []uint32{0, 1, 2, 62, 63, 64, 65, 1 << 16, 1 << 29, 1 << 31, math.MaxUint32 - 64, math.MaxUint32 - 1, math.MaxUint32}
	for _, blocks := range []int{1, 64, 65, 300} {
		for _, from := range numbers {
			for _, count := range numbers {
				for _, size := range []int{0, 7, 8, 9, 8 * 64, 8*64 + 1, 8 * 65} {
					puts(t, of(blocks), api.Span{From: from, Count: count}, text(9, size))
				}
			}
		}
	}
	full, e := image.Put(of(64), api.Span{Count: 64}, text(9, 512))
	if want := of(64); e != api.OK || full.Blocks != text(9, 512) || full.Marks != want.Marks || full.Done != want.Done {
		t.Errorf("all blocks: %d, %+v", int(e), full)
	}
}

func TestPutOfWhatIsNotGood(t *testing.T) {
	for more := range 8 {
		i := image.Image{Marks: api.Marks{Bits: 1}, Blocks: text(5, 24+more)}
		for from := range uint32(5) {
			for count := range uint32(5) {
				puts(t, i, api.Span{From: from, Count: count}, text(9, 8*int(count)))
			}
		}
	}
	puts(t, image.Image{}, api.Span{}, "")
	puts(t, image.Image{}, api.Span{Count: 1}, text(9, 8))
}

func TestWhatIsPutIsThere(t *testing.T) {
	g := rand.New(rand.NewSource(15))
	for range 300 {
		i := of(1 + g.Intn(64))
		want := i.Blocks
		for range 20 {
			from := g.Intn(len(want) / 8)
			count := 1 + g.Intn(len(want)/8-from)
			data := text(g.Intn(100), 8*count)
			var e api.Errno
			i, e = image.Put(i, api.Span{From: uint32(from), Count: uint32(count)}, data)
			want = want[:8*from] + data + want[8*from+8*count:]
			if e != api.OK || i.Blocks != want {
				t.Fatalf("%d: %q, not %q", int(e), i.Blocks, want)
			}
			for n := range len(want) / 8 {
				if got := image.Block(i, uint32(n)); got != want[8*n:8*n+8] {
					t.Fatalf("the block %d: %q", n, got)
				}
			}
		}
	}
}

// P15.3

func TestBack(t *testing.T) {
	g := rand.New(rand.NewSource(153))
	for range 2000 {
		i := image.Image{Marks: api.Marks{Low: g.Uint64() >> (3 + g.Intn(61)), Bits: g.Uint64() << 1 >> g.Intn(64) &^ 1}, Blocks: text(g.Intn(100), 8*(1+g.Intn(64)))}
		for k := range i.Done {
			i.Done[k] = done.Client{Top: g.Uint64() >> g.Intn(64), Bits: uint16(g.Uint32())}
		}
		s, e := image.Make(i)
		if e != api.OK {
			t.Fatalf("%+v: %d", i, int(e))
		}
		if got, e := image.Read(s); got != i || e != api.OK {
			t.Fatalf("%d: %+v, not %+v", int(e), got, i)
		}
	}
}

func TestWhatIsReadWasMadeSo(t *testing.T) {
	g := rand.New(rand.NewSource(154))
	good := 0
	for range 30000 {
		i := of(1 + g.Intn(2))
		if g.Intn(2) == 0 {
			i.Marks = marked[g.Intn(len(marked))].Marks
		}
		b := body(i)
		switch g.Intn(4) {
		case 0:
			b[g.Intn(len(b))] = byte(g.Uint32())
		case 1:
			b[g.Intn(18)] ^= 1 << g.Intn(8)
		case 2:
			b = b[:g.Intn(len(b)+1)]
		}
		s := sealed(b)
		got, e := image.Read(s)
		if e != api.OK {
			if e != api.ErrForm || got != (image.Image{}) {
				t.Fatalf("%d: %+v", int(e), got)
			}
			continue
		}
		good++
		if again, e := image.Make(got); again != s || e != api.OK {
			t.Fatalf("%d: %q, not %q", int(e), again, s)
		}
	}
	if good < 5000 {
		t.Errorf("only %d were read", good)
	}
}
