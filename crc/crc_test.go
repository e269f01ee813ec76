package crc_test

import (
	"bytes"
	"hash/crc32"
	"math/rand"
	"testing"

	"keelson/api"
	"keelson/crc"
	"keelson/octet"
)

// bitwise is the document's definition, word by word.
func bitwise(sum uint32, b []byte) uint32 {
	n := 1<<32 - 1 - sum
	for _, x := range b {
		for i := range 8 {
			n ^= uint32(x) >> i & 1
			low := n & 1
			n >>= 1
			if low == 1 {
				n ^= 0x82f63b78
			}
		}
	}
	return 1<<32 - 1 - n
}

func some(g *rand.Rand, n int) []byte {
	b := make([]byte, n)
	g.Read(b)
	return b
}

// P2.1

func TestSumOfKnownTexts(t *testing.T) {
	rising := make([]byte, 32)
	for i := range rising {
		rising[i] = byte(i)
	}
	for _, c := range []struct {
		text []byte
		sum  uint32
	}{
		{nil, 0},
		{[]byte{}, 0},
		{[]byte("123456789"), 0xe3069283},
		{make([]byte, 32), 0x8a9136aa},
		{bytes.Repeat([]byte{255}, 32), 0x62a8ab43},
		{rising, 0x46dd794e},
	} {
		if s := crc.Sum(c.text); s != c.sum {
			t.Errorf("%q: %x, not %x", c.text, s, c.sum)
		}
	}
}

func TestSumOfEachByte(t *testing.T) {
	for x := range 256 {
		b := []byte{byte(x)}
		if s := crc.Sum(b); s != bitwise(0, b) {
			t.Errorf("%d: %x", x, s)
		}
	}
}

func TestSumOfAnyText(t *testing.T) {
	g := rand.New(rand.NewSource(1))
	table := crc32.MakeTable(crc32.Castagnoli)
	for n := range 300 {
		b := some(g, n)
		if s := crc.Sum(b); s != bitwise(0, b) || s != crc32.Checksum(b, table) {
			t.Fatalf("%x: %x", b, s)
		}
	}
}

func TestMoreOfAnyNumber(t *testing.T) {
	g := rand.New(rand.NewSource(2))
	sums := []uint32{0, 1, 0x80000000, 0xfffffffe, 0xffffffff}
	for range 100 {
		sums = append(sums, g.Uint32())
	}
	for _, sum := range sums {
		if s := crc.More(sum, nil); s != sum {
			t.Errorf("nothing more of %x: %x", sum, s)
		}
		b := some(g, 1+g.Intn(20))
		if s := crc.More(sum, b); s != bitwise(sum, b) {
			t.Errorf("more of %x: %x", sum, s)
		}
	}
}

func TestSumLeavesBytesAlone(t *testing.T) {
	room := []byte{1, 2, 3, 4}
	s := crc.Sum(room[:2])
	if !bytes.Equal(room, []byte{1, 2, 3, 4}) {
		t.Errorf("what was handed in is %v", room)
	}
	room[2], room[3] = 8, 9
	if crc.Sum(room[:2]) != s {
		t.Error("the spare room is in the sum")
	}
}

// P2.2

func TestSealPutsTheSumBehind(t *testing.T) {
	for _, text := range []string{"", "a", "123456789"} {
		b := []byte(text)
		if s := crc.Seal(b); !bytes.Equal(s, octet.Put(b, 4, uint64(crc.Sum(b)))) {
			t.Errorf("%q: %x", text, s)
		}
	}
	s := crc.Seal([]byte("123456789"))
	if !bytes.Equal(s, []byte("123456789\x83\x92\x06\xe3")) {
		t.Errorf("%x", s)
	}
}

func TestSealsMemoryIsItsOwn(t *testing.T) {
	room := []byte{1, 2, 3, 4, 5, 6, 7, 8}
	s := crc.Seal(room[:2])
	clear(s[:cap(s)])
	if !bytes.Equal(room, []byte{1, 2, 3, 4, 5, 6, 7, 8}) {
		t.Errorf("what was handed in is %v", room)
	}
}

func TestOpenTellsWhatWasSealed(t *testing.T) {
	g := rand.New(rand.NewSource(3))
	for n := range 100 {
		b := some(g, n)
		if got, e := crc.Open(crc.Seal(b)); e != api.OK || !bytes.Equal(got, b) {
			t.Fatalf("%x: %x, %d", b, got, int(e))
		}
	}
}

func TestOpensMemoryIsItsOwn(t *testing.T) {
	s := crc.Seal([]byte("abc"))
	kept := bytes.Clone(s)
	b, e := crc.Open(s)
	if e != api.OK {
		t.Fatal(int(e))
	}
	clear(b[:cap(b)])
	if !bytes.Equal(s, kept) {
		t.Errorf("what was handed in is %x", s)
	}
	b, _ = crc.Open(s)
	clear(s)
	if string(b) != "abc" {
		t.Errorf("what was handed out is %q", b)
	}
}

func TestOpenOfTooFewBytes(t *testing.T) {
	for n := range 4 {
		if b, e := crc.Open(make([]byte, n)); e != api.ErrForm || len(b) != 0 {
			t.Errorf("%d bytes: %v, %d", n, b, int(e))
		}
	}
	if b, e := crc.Open(nil); e != api.ErrForm || len(b) != 0 {
		t.Errorf("nil: %v, %d", b, int(e))
	}
	if b, e := crc.Open(make([]byte, 4)); e != api.OK || len(b) != 0 {
		t.Errorf("the seal of nothing: %v, %d", b, int(e))
	}
	if b, e := crc.Open(crc.Seal([]byte("abc"))[:3]); e != api.ErrForm || len(b) != 0 {
		t.Errorf("with spare room: %v, %d", b, int(e))
	}
}

func TestOpenOfAWrongSum(t *testing.T) {
	for _, b := range [][]byte{{0, 0, 0, 1}, {0, 0, 0, 0, 0}, []byte("123456789"), []byte("123456789\xe3\x06\x92\x83")} {
		if got, e := crc.Open(b); e != api.ErrSum || len(got) != 0 {
			t.Errorf("%x: %v, %d", b, got, int(e))
		}
	}
	s := crc.Seal([]byte("123456789"))
	for n := 4; n < len(s); n++ {
		if got, e := crc.Open(s[:n]); e != api.ErrSum || len(got) != 0 {
			t.Errorf("%d bytes: %v, %d", n, got, int(e))
		}
	}
}

// P2.3

func TestSumGoesOn(t *testing.T) {
	g := rand.New(rand.NewSource(4))
	for range 50 {
		b := some(g, g.Intn(40))
		for i := range len(b) + 1 {
			for j := i; j <= len(b); j++ {
				s := crc.More(crc.More(crc.Sum(b[:i]), b[i:j]), b[j:])
				if s != crc.Sum(b) {
					t.Fatalf("%x cut at %d and %d: %x", b, i, j, s)
				}
			}
		}
	}
}

// P2.4

// turned is s with the bits of burst turned, from the bit at on, of each byte the lowest first.
func turned(s []byte, at int, burst uint32) []byte {
	s = bytes.Clone(s)
	for k := range 32 {
		if burst>>k&1 == 1 {
			s[(at+k)/8] ^= 1 << ((at + k) % 8)
		}
	}
	return s
}

func staysShut(t *testing.T, s []byte, at int, burst uint32) {
	t.Helper()
	b, e := crc.Open(turned(s, at, burst))
	if e != api.ErrSum || len(b) != 0 {
		t.Fatalf("%x with %x turned from bit %d on: %d", s, burst, at, int(e))
	}
}

func TestBurstsDoNotOpen(t *testing.T) {
	g := rand.New(rand.NewSource(5))
	for _, n := range []int{0, 1, 4, 9, 48} {
		s := crc.Seal(some(g, n))
		for at := range 8*len(s) - 31 {
			for k := range 32 {
				staysShut(t, s, at, 1<<k)
				staysShut(t, s, at, 1|1<<k)
				staysShut(t, s, at, 1<<31|1<<k)
				staysShut(t, s, at, ^uint32(0)>>k)
			}
			for range 200 {
				staysShut(t, s, at, g.Uint32()|1)
			}
		}
	}
}

func TestShortBurstsDoNotOpen(t *testing.T) {
	s := crc.Seal([]byte("123456789"))
	for _, at := range []int{0, 5, 48, 60, 8*len(s) - 32} {
		for burst := uint32(1); burst < 1<<14; burst++ {
			staysShut(t, s, at, burst)
		}
	}
}
