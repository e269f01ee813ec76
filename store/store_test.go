package store_test

import (
	"bytes"
	"encoding/binary"
	"math"
	"math/rand"
	"slices"
	"strings"
	"testing"

	"keelson/api"
	"keelson/device"
	"keelson/done"
	"keelson/entry"
	"keelson/frame"
	"keelson/image"
	"keelson/marks"
	"keelson/store"
	"keelson/twin"
)

const (
	greatest = math.MaxUint64
	limit    = api.MaxIndex - api.MaxMarks // the greatest index that may be marked
	head     = 96                          // bytes that are saved ahead of where blocks stand
)

// text is n bytes that are no noughts, other ones for each first one, and for each block.
func text(first, n int) string {
	b := make([]byte, n)
	for i := range b {
		k := first*17 + i
		switch i % api.BlockLen {
		case 0:
			k = first
		case 1:
			k = first / 250
		case 2:
			k = i / api.BlockLen
		}
		b[i] = byte(1 + k%250)
	}
	return string(b)
}

func noughts(n int) string {
	return strings.Repeat("\x00", n)
}

// write is an entry that writes so many blocks from one on, of whose request nobody else is.
func write(index uint64, from, count uint32) api.Entry {
	return api.Entry{Index: index, Term: 1, Start: 1, Kind: api.KindWrite, Client: 1 + index%8, Req: index, Span: api.Span{From: from, Count: count}, Data: text(int(index), 8*int(count))}
}

func noop(index uint64) api.Entry {
	return entry.Noop(index, 1, 1)
}

// placeOf tells how many sectors what is saved of so many blocks takes, reckoned here by hand.
func placeOf(blocks uint32) int {
	return (4 + head + 4*int(blocks) + 4 + 47) / 48
}

func sectorsOf(blocks uint32) int {
	return 2*placeOf(blocks) + 2*int(blocks) + 8
}

// fresh is what a new store has.
func fresh(blocks uint32) image.Image {
	return image.Image{Blocks: noughts(8 * int(blocks))}
}

// does tells what a store that has i has behind an entry, and the error of it.
func does(i image.Image, e api.Entry) (image.Image, api.Errno) {
	n := uint64(e.Span.Count)
	switch writes := e.Kind == api.KindWrite; {
	case e.Kind != api.KindWrite && e.Kind != api.KindNoop, writes && uint64(len(e.Data)) != 8*n:
		return i, api.ErrArg
	case writes && (n == 0 || n > 8 || uint64(e.Span.From)+n > uint64(len(i.Blocks)/8)):
		return i, api.ErrRange
	case e.Index <= i.Marks.Low, marks.Has(i.Marks, e.Index):
		return i, api.ErrThere
	case e.Index > limit, e.Index-i.Marks.Low > 64:
		return i, api.ErrRange
	case writes:
		at := 8 * int(e.Span.From)
		i.Blocks = i.Blocks[:at] + e.Data + i.Blocks[at+len(e.Data):]
		i.Done, _ = done.Add(i.Done, e.Client, e.Req)
	}
	i.Marks, _ = marks.Set(i.Marks, e.Index)
	return i, api.OK
}

func is(t *testing.T, what string, got, want api.Errno) {
	t.Helper()
	if got != want {
		t.Errorf("%s: %d, not %d", what, int(got), int(want))
	}
}

func opened(t *testing.T, d *device.Device, base int, blocks uint32) *store.Store {
	t.Helper()
	s, e := store.Open(d, base, blocks)
	if s == nil || e != api.OK {
		t.Fatalf("%d blocks from %d on: %d", blocks, base, int(e))
	}
	return s
}

func refuses(t *testing.T, what string, d *device.Device, base int, blocks uint32, want api.Errno) {
	t.Helper()
	if s, e := store.Open(d, base, blocks); s != nil || e != want {
		t.Errorf("%s: %v, %d, not %d", what, s, int(e), int(want))
	}
}

// says tells whether a store has just this, in each call that tells of it.
func says(t *testing.T, what string, s *store.Store, want image.Image, saved uint64) {
	t.Helper()
	remembers(t, what, s, want, saved)
	if got, e := s.Image(); got != want || e != api.OK {
		t.Errorf("%s: %d, %+v, not %+v", what, int(e), got, want)
	}
	blocks := uint32(len(want.Blocks) / 8)
	for n := range blocks {
		if got, e := s.Read(api.Span{From: n, Count: 1}); got != want.Blocks[8*n:8*n+8] || e != api.OK {
			t.Errorf("%s: the block %d: %d, %q, not %q", what, n, int(e), got, want.Blocks[8*n:8*n+8])
		}
	}
}

// remembers is what a store says that needs no power.
func remembers(t *testing.T, what string, s *store.Store, want image.Image, saved uint64) {
	t.Helper()
	if s.Marks() != want.Marks || s.Done() != want.Done || s.Saved() != saved || int(s.Blocks())*8 != len(want.Blocks) {
		t.Errorf("%s: %d blocks, %+v, %v, %d, not %+v, %d", what, s.Blocks(), s.Marks(), s.Done(), s.Saved(), want, saved)
	}
}

// applies applies entries to a store, and tells what it has then.
func applies(t *testing.T, s *store.Store, i image.Image, l ...api.Entry) image.Image {
	t.Helper()
	for _, e := range l {
		var wrong api.Errno
		if i, wrong = does(i, e); wrong != api.OK {
			t.Fatalf("the test's own entry %d: %d", e.Index, int(wrong))
		}
		is(t, "an entry", s.Apply(e), api.OK)
	}
	return i
}

func saves(t *testing.T, s *store.Store) {
	t.Helper()
	is(t, "a save", s.Save(), api.OK)
}

// unchanged tells whether a call changed neither the device nor what the store says.
func unchanged(t *testing.T, what string, d *device.Device, s *store.Store, call func()) {
	t.Helper()
	was, marked, table, saved := d.Clone(), s.Marks(), s.Done(), s.Saved()
	blocks, wrong := s.Image()
	call()
	if !device.Same(d, was) || d.Done() != was.Done() {
		t.Errorf("%s: the device is changed", what)
	}
	if s.Marks() != marked || s.Done() != table || s.Saved() != saved {
		t.Errorf("%s: %+v, %v, %d, not %+v, %v, %d", what, s.Marks(), s.Done(), s.Saved(), marked, table, saved)
	}
	if got, e := s.Image(); got != blocks || e != wrong {
		t.Errorf("%s: %d, %+v, not %+v", what, int(e), got, blocks)
	}
}

// lay makes bytes safe on a device.
func lay(t *testing.T, d *device.Device, at int, b []byte) {
	t.Helper()
	is(t, "writing", d.Write(at, b), api.OK)
	is(t, "flushing", d.Flush(), api.OK)
}

// sector tells a sector's bytes.
func sector(t *testing.T, d *device.Device, at int) string {
	t.Helper()
	b, e := d.Read(at, 1)
	is(t, "reading", e, api.OK)
	return string(b)
}

func powerless(d *device.Device) *device.Device {
	d.Fuse(0)
	d.Flush()
	return d
}

// P16.1

func TestSectors(t *testing.T) {
	for blocks := range uint32(65) {
		want := sectorsOf(blocks)
		if blocks == 0 {
			want = 0
		}
		if got := store.Sectors(blocks); got != want {
			t.Errorf("%d blocks: %d sectors, not %d", blocks, got, want)
		}
	}
	for blocks, want := range map[uint32]int{0: 0, 1: 6 + 10, 8: 6 + 24, 9: 6 + 26, 10: 6 + 28, 11: 8 + 30, 64: 16 + 136, 65: 0, 128: 0, 1 << 16: 0, 1 << 31: 0, math.MaxUint32: 0} {
		if got := store.Sectors(blocks); got != want {
			t.Errorf("%d blocks: %d sectors, not %d", blocks, got, want)
		}
	}
}

var noNumbers = []uint32{0, 65, 66, 128, 1 << 16, 1 << 31, 1<<31 + 1, math.MaxUint32}

func TestOpenOfWhatCannotBe(t *testing.T) {
	for _, blocks := range noNumbers {
		refuses(t, "no such number of blocks", device.New(1000), 0, blocks, api.ErrRange)
		refuses(t, "no such number of blocks, and no device", nil, 0, blocks, api.ErrRange)
		refuses(t, "no such number of blocks, and no power", powerless(device.New(1000)), 0, blocks, api.ErrRange)
	}
	for _, blocks := range []uint32{1, 8, 64} {
		refuses(t, "no device", nil, 0, blocks, api.ErrNil)
		refuses(t, "no device, and no base", nil, -1, blocks, api.ErrNil)
		refuses(t, "no power", powerless(device.New(1000)), 0, blocks, api.ErrDown)
		refuses(t, "no power, and no base", powerless(device.New(1000)), -1, blocks, api.ErrDown)
		refuses(t, "no power, and no room", powerless(device.New(10)), 0, blocks, api.ErrDown)
		refuses(t, "a device that no call made", &device.Device{}, 0, blocks, api.ErrRange)
	}
}

func TestOpenAtItsBounds(t *testing.T) {
	for blocks := uint32(1); blocks <= 64; blocks++ {
		need := sectorsOf(blocks)
		d := device.New(need + 3)
		for base := range 4 {
			says(t, "there is room", opened(t, d, base, blocks), fresh(blocks), 0)
		}
		for _, base := range []int{math.MinInt, math.MinInt + 1, -1 << 32, -need, -2, -1, 4, 5, need, need + 3, need + 4, 1 << 32, math.MaxInt - need, math.MaxInt - 1, math.MaxInt} {
			refuses(t, "there is no room", d, base, blocks, api.ErrRange)
		}
		if d.Done() != 0 {
			t.Errorf("%d blocks: Open changed the device", blocks)
		}
		for n := 1; n < need; n++ {
			refuses(t, "too small a device", device.New(n), 0, blocks, api.ErrRange)
		}
		says(t, "just room", opened(t, device.New(need), 0, blocks), fresh(blocks), 0)
	}
	d := device.New(api.MaxSectors)
	says(t, "at the end of the greatest one", opened(t, d, api.MaxSectors-sectorsOf(64), 64), fresh(64), 0)
	refuses(t, "one sector farther", d, api.MaxSectors-sectorsOf(64)+1, 64, api.ErrRange)
}

func TestOpenTellsWhatWasSaved(t *testing.T) {
	for blocks := uint32(1); blocks <= 64; blocks++ {
		d := device.New(sectorsOf(blocks) + 2)
		s := opened(t, d, 1, blocks)
		i := applies(t, s, fresh(blocks), noop(2), write(1, blocks-1, 1), write(4, 0, min(blocks, 8)))
		says(t, "ahead of a save", opened(t, d, 1, blocks), fresh(blocks), 0)
		saves(t, s)
		says(t, "saved", s, i, 2)
		says(t, "opened again", opened(t, d, 1, blocks), i, 2)
		i = applies(t, s, i, write(3, 0, 1))
		says(t, "not saved again", s, i, 2)
		saves(t, s)
		says(t, "saved again", s, i, 4)
		s = opened(t, d, 1, blocks)
		says(t, "opened again", s, i, 4)
		i = applies(t, s, i, write(5, 0, 1), write(7, blocks-1, 1))
		saves(t, s)
		says(t, "it goes on", opened(t, d, 1, blocks), i, 5)
	}
}

// forged is a device on which this text was saved, as that of a store of so many blocks.
func forged(t *testing.T, blocks uint32, text []byte) *device.Device {
	t.Helper()
	d := device.New(sectorsOf(blocks))
	w, e := twin.Open(d, 0, placeOf(blocks))
	is(t, "a twin", e, api.OK)
	is(t, "a twin's save", w.Save(text), api.OK)
	return d
}

// savedText is what is saved of a store of six blocks, five of which were written.
func savedText(t *testing.T) ([]byte, image.Image) {
	t.Helper()
	d := device.New(sectorsOf(6))
	s := opened(t, d, 0, 6)
	i := applies(t, s, fresh(6), write(1, 0, 3), write(2, 4, 2), noop(5))
	saves(t, s)
	w, e := twin.Open(d, 0, placeOf(6))
	is(t, "a twin", e, api.OK)
	b, _ := w.Last()
	return b, i
}

func TestWhatIsSaved(t *testing.T) {
	b, i := savedText(t)
	var want []byte
	for _, c := range i.Done {
		want = binary.LittleEndian.AppendUint64(want, c.Top)
		want = binary.LittleEndian.AppendUint16(want, c.Bits)
	}
	want = binary.LittleEndian.AppendUint64(want, i.Marks.Low)
	want = binary.LittleEndian.AppendUint64(want, i.Marks.Bits)
	if len(b) != head+4*6 || !bytes.Equal(b[:head], want) {
		t.Errorf("%d bytes, %v, not %v", len(b), b, want)
	}
	s := opened(t, forged(t, 6, b), 0, 6)
	remembers(t, "the same text elsewhere", s, i, 2)
}

func TestWhatWasSavedAndCannotBe(t *testing.T) {
	b, _ := savedText(t)
	for n := range b {
		refuses(t, "too little", forged(t, 6, b[:n]), 0, 6, api.ErrForm)
	}
	for n := 1; n <= placeOf(6)*48-8-len(b); n++ {
		refuses(t, "too much", forged(t, 6, append(bytes.Clone(b), make([]byte, n)...)), 0, 6, api.ErrForm)
	}
	stands := func(block int, n uint32) []byte {
		c := bytes.Clone(b)
		binary.LittleEndian.PutUint32(c[head+4*block:], n)
		return c
	}
	for block := range 6 {
		for _, n := range []uint32{2*6 + 8 + 1, 2*6 + 8 + 2, 100, 1 << 16, 1 << 24, 1 << 31, math.MaxUint32 - 1, math.MaxUint32} {
			refuses(t, "where no block can stand", forged(t, 6, stands(block, n)), 0, 6, api.ErrForm)
		}
		for other := range 6 {
			if other != block && other != 3 { // of the block 3 it is said that it stands nowhere
				same := binary.LittleEndian.Uint32(b[head+4*other:])
				refuses(t, "where another block stands", forged(t, 6, stands(block, same)), 0, 6, api.ErrForm)
			}
		}
		s := opened(t, forged(t, 6, stands(block, 2*6+8)), 0, 6)
		if got := s.Blocks(); got != 6 {
			t.Errorf("in the last sector: %d blocks", got)
		}
	}
	nowhere := slices.Concat(b[:head], make([]byte, 4*6))
	if got, e := opened(t, forged(t, 6, nowhere), 0, 6).Image(); got.Blocks != noughts(48) || e != api.OK {
		t.Errorf("nothing stands anywhere: %d, %+v", int(e), got)
	}
}

func TestSavedMarksThatAreNotGood(t *testing.T) {
	b, i := savedText(t)
	for _, m := range []api.Marks{{}, {Low: 3, Bits: 2}, {Bits: greatest - 1}, {Low: limit}, {Low: limit - 2, Bits: 2}, {Bits: 1}, {Low: 3, Bits: 3}, {Low: limit, Bits: 2}, {Low: limit - 1, Bits: 2}, {Low: limit + 1}, {Low: greatest}, {Low: greatest, Bits: greatest}} {
		binary.LittleEndian.PutUint64(b[80:], m.Low)
		binary.LittleEndian.PutUint64(b[88:], m.Bits)
		d := forged(t, 6, b)
		if !marks.Good(m) {
			refuses(t, "marks that are not good", d, 0, 6, api.ErrForm)
			continue
		}
		i.Marks = m
		remembers(t, "other marks", opened(t, d, 0, 6), i, m.Low)
	}
}

func TestSavedOfAnotherNumberOfBlocks(t *testing.T) {
	d := device.New(sectorsOf(10))
	s := opened(t, d, 0, 8) // what is saved of 7, 8, 9 and 10 has as many sectors
	applies(t, s, fresh(8), write(1, 0, 8))
	saves(t, s)
	for _, blocks := range []uint32{7, 9, 10} {
		refuses(t, "another number of blocks", d, 0, blocks, api.ErrForm)
	}
}

func TestATableOfAnyKindWasSaved(t *testing.T) {
	b, i := savedText(t)
	for k := range 80 {
		b[k] = 255
	}
	for k := range i.Done {
		i.Done[k] = done.Client{Top: greatest, Bits: math.MaxUint16}
	}
	remembers(t, "the greatest table", opened(t, forged(t, 6, b), 0, 6), i, 2)
}

// isNone tells whether no call of a store does anything.
func isNone(t *testing.T, what string, s *store.Store) {
	t.Helper()
	if s.Blocks() != 0 || s.Marks() != (api.Marks{}) || s.Saved() != 0 || s.Done() != (done.Table{}) {
		t.Errorf("%s: %d, %+v, %d, %v", what, s.Blocks(), s.Marks(), s.Saved(), s.Done())
	}
	for _, e := range []api.Entry{{}, noop(0), noop(1), write(1, 0, 1), write(2, 0, 9)} {
		is(t, what+": Apply", s.Apply(e), api.ErrNil)
	}
	for _, x := range []api.Span{{}, {Count: 1}, {From: 1, Count: 100}} {
		if got, e := s.Read(x); got != "" || e != api.ErrNil {
			t.Errorf("%s: Read: %d, %q", what, int(e), got)
		}
	}
	is(t, what+": Save", s.Save(), api.ErrNil)
	if got, e := s.Image(); got != (image.Image{}) || e != api.ErrNil {
		t.Errorf("%s: Image: %d, %+v", what, int(e), got)
	}
	for _, i := range []image.Image{{}, fresh(1), fresh(65)} {
		is(t, what+": Import", s.Import(i), api.ErrNil)
	}
}

func TestAStoreThatIsNoneOrThatNoCallMade(t *testing.T) {
	isNone(t, "nil", nil)
	plain := &store.Store{}
	isNone(t, "plain", plain)
	isNone(t, "plain, once more", plain)
}

// P16.2

func TestApplyOfEachSpan(t *testing.T) {
	for _, blocks := range []uint32{1, 2, 5, 9, 12} {
		for from := range blocks + 2 {
			for count := range uint32(11) {
				d := device.New(sectorsOf(blocks))
				s := opened(t, d, 0, blocks)
				i := applies(t, s, fresh(blocks), write(1, 0, 1))
				e := write(2, from, count)
				want, wrong := does(i, e)
				if (wrong == api.OK) != (count >= 1 && count <= 8 && from+count <= blocks) {
					t.Fatalf("%d from %d on, of %d: the test's own telling: %d", count, from, blocks, int(wrong))
				}
				is(t, "an entry", s.Apply(e), wrong)
				says(t, "an entry", s, want, 0)
			}
		}
	}
}

func TestWhyAnEntryIsNotApplied(t *testing.T) {
	d := device.New(sectorsOf(20) + 4)
	s := opened(t, d, 2, 20)
	applies(t, s, fresh(20), write(1, 0, 8), noop(2), write(5, 3, 2), write(66, 19, 1))
	saves(t, s)
	with := func(e api.Entry, change func(e *api.Entry)) api.Entry { change(&e); return e }
	kind := func(k int) func(*api.Entry) { return func(e *api.Entry) { e.Kind = k } }
	span := func(from, count uint32) func(*api.Entry) {
		return func(e *api.Entry) { e.Span = api.Span{From: from, Count: count} }
	}
	data := func(n int) func(*api.Entry) { return func(e *api.Entry) { e.Data = text(9, n) } }
	for what, c := range map[string]struct {
		e    api.Entry
		want api.Errno
	}{
		"no kind":                             {with(write(3, 0, 1), kind(0)), api.ErrArg},
		"the kind 3":                          {with(write(3, 0, 1), kind(3)), api.ErrArg},
		"the kind -1":                         {with(noop(3), kind(-1)), api.ErrArg},
		"a kind modulo 256":                   {with(write(3, 0, 1), kind(256+api.KindWrite)), api.ErrArg},
		"the least kind":                      {with(write(3, 0, 1), kind(math.MinInt)), api.ErrArg},
		"the greatest kind":                   {with(write(3, 0, 1), kind(math.MaxInt)), api.ErrArg},
		"no kind, no span, and marked":        {with(write(1, 20, 9), kind(0)), api.ErrArg},
		"no data":                             {with(write(3, 0, 1), data(0)), api.ErrArg},
		"a byte too few":                      {with(write(3, 0, 2), data(15)), api.ErrArg},
		"a byte too many":                     {with(write(3, 0, 2), data(17)), api.ErrArg},
		"a block too few":                     {with(write(3, 0, 2), data(8)), api.ErrArg},
		"a block too many":                    {with(write(3, 0, 2), data(24)), api.ErrArg},
		"data, and no block":                  {with(write(3, 0, 0), data(8)), api.ErrArg},
		"as many bytes as blocks, modulo":     {with(with(write(3, 0, 0), span(0, 1<<29)), data(0)), api.ErrArg},
		"likewise, of one block more":         {with(with(write(3, 0, 1), span(0, 1<<29+1)), data(8)), api.ErrArg},
		"all blocks there are":                {with(with(write(3, 0, 1), span(0, math.MaxUint32)), data(8)), api.ErrArg},
		"too few, behind the end, and marked": {with(write(5, 20, 2), data(8)), api.ErrArg},
		"no block":                            {write(3, 0, 0), api.ErrRange},
		"no block at the end":                 {write(3, 20, 0), api.ErrRange},
		"behind the last block":               {write(3, 20, 1), api.ErrRange},
		"over the last block":                 {write(3, 19, 2), api.ErrRange},
		"far behind":                          {write(3, 1<<31, 1), api.ErrRange},
		"at the last block of all":            {write(3, math.MaxUint32, 1), api.ErrRange},
		"over the last block of all":          {write(3, math.MaxUint32-1, 8), api.ErrRange},
		"nine blocks":                         {write(3, 0, 9), api.ErrRange},
		"nine blocks up to the end":           {write(3, 11, 9), api.ErrRange},
		"all of its blocks":                   {write(3, 0, 20), api.ErrRange},
		"nine blocks, and marked":             {write(5, 0, 9), api.ErrRange},
		"nine blocks, and no room":            {write(100, 0, 9), api.ErrRange},
		"behind the last block, and marked":   {write(1, 20, 1), api.ErrRange},
		"the index 0":                         {write(0, 0, 1), api.ErrThere},
		"a noop at the index 0":               {noop(0), api.ErrThere},
		"below Low":                           {write(1, 0, 1), api.ErrThere},
		"of Low":                              {noop(2), api.ErrThere},
		"above Low, and marked":               {write(5, 0, 1), api.ErrThere},
		"the last one that has room":          {noop(66), api.ErrThere},
		"no room":                             {write(67, 0, 1), api.ErrRange},
		"no room for a noop":                  {noop(67), api.ErrRange},
		"far above":                           {write(1<<40, 0, 1), api.ErrRange},
		"the limit":                           {noop(limit), api.ErrRange},
		"the greatest index":                  {write(greatest, 0, 1), api.ErrRange},
		"the greatest index of a noop":        {noop(greatest), api.ErrRange},
	} {
		unchanged(t, what, d, s, func() { is(t, what, s.Apply(c.e), c.want) })
	}
	down := opened(t, d, 2, 20)
	powerless(d)
	unchanged(t, "no power, and no kind", d, down, func() { is(t, "no kind", down.Apply(with(write(3, 0, 1), kind(0))), api.ErrArg) })
	unchanged(t, "no power, and no span", d, down, func() { is(t, "no span", down.Apply(write(3, 20, 1)), api.ErrRange) })
	unchanged(t, "no power, and marked", d, down, func() { is(t, "marked", down.Apply(write(1, 0, 1)), api.ErrThere) })
	unchanged(t, "no power, and no room", d, down, func() { is(t, "no room", down.Apply(write(67, 0, 1)), api.ErrRange) })
	unchanged(t, "no power", d, down, func() { is(t, "no power", down.Apply(write(3, 0, 1)), api.ErrDown) })
}

func TestIndicesUpToTheLimit(t *testing.T) {
	d := device.New(sectorsOf(3))
	s := opened(t, d, 0, 3)
	i := fresh(3)
	i.Marks = api.Marks{Low: limit - 3}
	is(t, "an import", s.Import(i), api.OK)
	for _, index := range []uint64{limit + 1, limit + 2, api.MaxIndex, greatest} {
		unchanged(t, "above the limit", d, s, func() { is(t, "above the limit", s.Apply(noop(index)), api.ErrRange) })
	}
	i = applies(t, s, i, write(limit, 0, 1), noop(limit-2))
	says(t, "the limit", s, i, limit-3)
	i = applies(t, s, i, write(limit-1, 1, 1))
	saves(t, s)
	says(t, "all", opened(t, d, 0, 3), i, limit)
	unchanged(t, "none is left", d, s, func() { is(t, "none is left", s.Apply(noop(limit+1)), api.ErrRange) })
}

func TestANoopMarksItsIndexAlone(t *testing.T) {
	d := device.New(sectorsOf(4))
	s := opened(t, d, 0, 4)
	i := applies(t, s, fresh(4), write(1, 0, 2))
	was := d.Clone()
	strange := write(3, 2, 9)
	strange.Kind, strange.Data = api.KindNoop, text(1, 5) // what is no write's is of no matter
	i = applies(t, s, i, noop(2), strange)
	says(t, "noops", s, i, 0)
	if i.Marks.Low != 3 || i.Done != s.Done() || done.Has(i.Done, strange.Client, strange.Req) || !device.Same(d, was) {
		t.Errorf("noops: %+v", i)
	}
	powerless(d)
	is(t, "a noop asks nothing of the device", s.Apply(noop(4)), api.OK)
	if s.Marks().Low != 4 {
		t.Errorf("%+v", s.Marks())
	}
}

func TestRequestsThatWereDoneOrAreOld(t *testing.T) {
	d := device.New(sectorsOf(4))
	s := opened(t, d, 0, 4)
	i := fresh(4)
	index := uint64(0)
	for _, c := range []struct{ client, req uint64 }{{1, 20}, {1, 20}, {1, 4}, {1, 5}, {1, 0}, {0, 7}, {9, 7}, {greatest, greatest}, {8, greatest}, {8, 1}, {8, greatest - 15}, {8, greatest - 16}} {
		index++
		e := write(index, uint32(index%4), 1)
		e.Client, e.Req = c.client, c.req
		i = applies(t, s, i, e)
		says(t, "its blocks are written all the same", s, i, 0)
	}
	var want done.Table
	want[0] = done.Client{Top: 20, Bits: 1<<15 | 1}
	want[7] = done.Client{Top: greatest, Bits: 1<<15 | 1}
	if s.Done() != want {
		t.Errorf("%v, not %v", s.Done(), want)
	}
	saves(t, s)
	says(t, "opened again", opened(t, d, 0, 4), i, index)
}

func TestOtherFieldsAreOfNoMatter(t *testing.T) {
	d := device.New(sectorsOf(4))
	s := opened(t, d, 0, 4)
	e := write(1, 1, 2)
	e.Term, e.Start = 0, greatest
	e.Behind = []api.Look{{Client: 99}, {Req: 1}}
	looks := slices.Clone(e.Behind)
	i := applies(t, s, fresh(4), e)
	says(t, "an entry that is not good otherwise", s, i, 0)
	if !slices.Equal(e.Behind, looks) {
		t.Error("what was handed in is changed")
	}
}

// stood is where blocks stand, as a device tells it: by block the sector.
type stood map[int]int

// watch applies an entry, and tells whether just its blocks were written, where neither a block nor one that was saved last stands.
func watch(t *testing.T, d *device.Device, s *store.Store, first int, now, saved stood, e api.Entry) {
	t.Helper()
	was := make([]string, d.Sectors())
	for at := range was {
		was[at] = sector(t, d, at)
	}
	loose, count := d.Loose(), d.Done()
	is(t, "an entry", s.Apply(e), api.OK)
	if d.Loose() != loose+int(e.Span.Count) || d.Done() != count+int(e.Span.Count) {
		t.Fatalf("%d changes and flushes for %d blocks", d.Done()-count, e.Span.Count)
	}
	taken := map[int]bool{}
	for _, l := range []stood{now, saved} {
		for _, at := range l {
			taken[at] = true
		}
	}
	var changed []int
	for at := range was {
		if sector(t, d, at) != was[at] {
			changed = append(changed, at)
		}
	}
	if len(changed) != int(e.Span.Count) {
		t.Fatalf("%d sectors are changed for %d blocks", len(changed), e.Span.Count)
	}
	for k := range int(e.Span.Count) {
		want := e.Data[8*k:8*k+8] + noughts(56)
		at := slices.IndexFunc(changed, func(at int) bool { return sector(t, d, at) == want })
		if at < 0 || changed[at] < first || taken[changed[at]] {
			t.Fatalf("the block %d: %d of %v, behind %d, where %v is taken", int(e.Span.From)+k, at, changed, first, taken)
		}
		now[int(e.Span.From)+k] = changed[at]
	}
}

func TestWhereBlocksStand(t *testing.T) {
	g := rand.New(rand.NewSource(162))
	for _, blocks := range []uint32{1, 2, 7, 8, 9, 20} {
		base, first := 3, 3+2*placeOf(blocks)
		d := device.New(first + 2*int(blocks) + 8 + 2)
		lay(t, d, 0, []byte(text(1, 3*64)))
		lay(t, d, d.Sectors()-2, []byte(text(2, 2*64)))
		s := opened(t, d, base, blocks)
		i, now, saved := fresh(blocks), stood{}, stood{}
		low := uint64(0)
		used := map[int]bool{}
		for index := uint64(1); index <= 400; index++ {
			from := uint32(g.Intn(int(blocks)))
			e := write(index, from, 1+uint32(g.Intn(int(min(8, blocks-from)))))
			watch(t, d, s, first, now, saved, e)
			i, _ = does(i, e)
			for _, at := range now {
				used[at] = true
			}
			if g.Intn(4) == 0 || index%100 == 0 {
				saves(t, s)
				saved, low = stood{}, index
				for n, at := range now {
					saved[n] = at
				}
			}
			if index%50 == 0 {
				says(t, "written again and again", s, i, low)
			}
		}
		says(t, "opened again", opened(t, d, base, blocks), i, 400)
		if sector(t, d, 0)+sector(t, d, 1)+sector(t, d, 2) != text(1, 3*64) || sector(t, d, d.Sectors()-2)+sector(t, d, d.Sectors()-1) != text(2, 2*64) {
			t.Errorf("%d blocks: what stands ahead, or behind, is changed", blocks)
		}
		for at := range used {
			if at >= d.Sectors()-2 {
				t.Errorf("%d blocks: the sector %d", blocks, at)
			}
		}
	}
}

// writesAll writes each block once, as many at a time as can be.
func writesAll(t *testing.T, d *device.Device, s *store.Store, first int, now, saved stood, index *uint64, blocks uint32) {
	t.Helper()
	for from := uint32(0); from < blocks; from += 8 {
		*index++
		watch(t, d, s, first, now, saved, write(*index, from, min(8, blocks-from)))
	}
}

func TestUntilEachSectorWasUsed(t *testing.T) {
	for _, blocks := range []uint32{8, 11, 64} {
		first := 2 * placeOf(blocks)
		d := device.New(sectorsOf(blocks))
		s := opened(t, d, 0, blocks)
		now, saved, used := stood{}, stood{}, map[int]bool{}
		see := func() {
			for _, at := range now {
				used[at] = true
			}
		}
		index := uint64(0)
		writesAll(t, d, s, first, now, saved, &index, blocks)
		see()
		saves(t, s)
		saved = stood{}
		for n, at := range now {
			saved[n] = at
		}
		for range 3 { // no block stands where one that was saved does: what is left has just room for an entry
			writesAll(t, d, s, first, now, saved, &index, blocks)
			see()
			for from := range blocks - 7 {
				index++
				watch(t, d, s, first, now, saved, write(index, from, 8))
				see()
			}
		}
		if len(used) != 2*int(blocks)+8 {
			t.Errorf("%d blocks: %d sectors were used", blocks, len(used))
		}
		d.Crash()
		i := fresh(blocks)
		for n := range uint64(blocks+7) / 8 {
			i, _ = does(i, write(n+1, uint32(8*n), min(8, blocks-uint32(8*n))))
		}
		says(t, "all that was saved is left", opened(t, d, 0, blocks), i, uint64(blocks+7)/8)
	}
}

func TestReadOfEachSpan(t *testing.T) {
	for _, blocks := range []uint32{1, 2, 5, 12, 64} {
		d := device.New(sectorsOf(blocks))
		s := opened(t, d, 0, blocks)
		i := fresh(blocks)
		for index := uint64(1); index <= 2; index++ {
			for from := range blocks + 2 {
				for count := range blocks + 3 {
					got, e := s.Read(api.Span{From: from, Count: count})
					if count == 0 || from+count > blocks {
						if got != "" || e != api.ErrRange {
							t.Errorf("%d from %d on, of %d: %d, %q", count, from, blocks, int(e), got)
						}
						continue
					}
					if want := i.Blocks[8*from : 8*(from+count)]; got != want || e != api.OK {
						t.Errorf("%d from %d on, of %d: %d, %q, not %q", count, from, blocks, int(e), got, want)
					}
				}
			}
			i = applies(t, s, i, write(index, blocks/2, min(3, blocks-blocks/2))) // some were written, and some were not
		}
		for _, x := range []api.Span{{From: math.MaxUint32, Count: 1}, {From: math.MaxUint32, Count: math.MaxUint32}, {Count: math.MaxUint32}, {From: 1 << 31, Count: 1 << 31}, {From: math.MaxUint32 - 1, Count: 3}, {Count: 1 << 29}, {From: 1 << 29, Count: 1}} {
			if got, e := s.Read(x); got != "" || e != api.ErrRange {
				t.Errorf("%+v of %d: %d, %q", x, blocks, int(e), got)
			}
		}
	}
}

func TestReadWithoutPower(t *testing.T) {
	d := device.New(sectorsOf(4))
	s := opened(t, d, 0, 4)
	i := applies(t, s, fresh(4), write(1, 0, 2))
	saves(t, s)
	powerless(d)
	for _, x := range []api.Span{{Count: 1}, {Count: 4}, {From: 1, Count: 2}, {From: 2, Count: 2}} {
		if got, e := s.Read(x); got != "" || e != api.ErrDown {
			t.Errorf("%+v: %d, %q", x, int(e), got)
		}
	}
	for _, x := range []api.Span{{}, {Count: 5}, {From: 4, Count: 1}} {
		if got, e := s.Read(x); got != "" || e != api.ErrRange {
			t.Errorf("%+v: %d, %q", x, int(e), got)
		}
	}
	if got, e := s.Image(); got != (image.Image{}) || e != api.ErrDown {
		t.Errorf("%d, %+v", int(e), got)
	}
	remembers(t, "no power", s, i, 1)
	d.Crash()
	says(t, "with power", s, i, 1)
}

func TestNoughtsAreWrittenToo(t *testing.T) {
	d := device.New(sectorsOf(3))
	s := opened(t, d, 0, 3)
	i := applies(t, s, fresh(3), write(1, 0, 3))
	saves(t, s)
	e := write(2, 1, 2)
	e.Data = noughts(16)
	i = applies(t, s, i, e)
	says(t, "noughts", s, i, 1)
	saves(t, s)
	says(t, "opened again", opened(t, d, 0, 3), i, 2)
	e.Index = 3
	powerless(d)
	is(t, "noughts without power", s.Apply(e), api.ErrDown)
	remembers(t, "no power", s, i, 2)
}

// P16.3

func TestSaveFlushesAheadAndBehind(t *testing.T) {
	d := device.New(sectorsOf(4))
	s := opened(t, d, 0, 4)
	applies(t, s, fresh(4), write(1, 0, 3))
	for n := range 3 {
		loose, count, at := d.Loose(), d.Done(), n%2*placeOf(4)
		if loose != 3-3*min(n, 1) {
			t.Errorf("%d changes wait", loose)
		}
		saves(t, s)
		if d.Loose() != 0 || d.Done() != count+1+placeOf(4)+1 {
			t.Errorf("%d changes wait, and there were %d changes and flushes", d.Loose(), d.Done()-count)
		}
		b, _ := d.Read(at, placeOf(4))
		if number, text, e := frame.Read(b); number != uint64(n)+1 || len(text) != head+16 || e != api.OK {
			t.Errorf("the place %d: the number %d, %d bytes, %d", at, number, len(text), int(e))
		}
	}
}

func TestSavedWithHoles(t *testing.T) {
	d := device.New(sectorsOf(4))
	s := opened(t, d, 0, 4)
	i := fresh(4)
	low := uint64(0)
	for _, c := range []struct{ index, low uint64 }{{2, 0}, {4, 0}, {1, 2}, {5, 2}, {66, 2}, {3, 5}, {7, 5}, {6, 7}} {
		i = applies(t, s, i, write(c.index, uint32(c.index%4), 1))
		says(t, "ahead of a save", s, i, low)
		low = c.low
		saves(t, s)
		says(t, "behind a save", s, i, low)
		says(t, "opened again", opened(t, d, 0, 4), i, low)
	}
}

func TestASaveWithoutPower(t *testing.T) {
	d := device.New(sectorsOf(4))
	s := opened(t, d, 0, 4)
	i := applies(t, s, fresh(4), write(1, 0, 3))
	saves(t, s)
	i = applies(t, s, i, write(2, 1, 3))
	powerless(d)
	is(t, "no power", s.Save(), api.ErrDown)
	remembers(t, "no power", s, i, 1)
	d.Crash(64, 64, 64) // all is kept
	says(t, "with power", s, i, 1)
	saves(t, s)
	says(t, "opened again", opened(t, d, 0, 4), i, 2)
}

// numbered lets what was saved last have another number.
func numbered(t *testing.T, d *device.Device, blocks uint32, number uint64) {
	t.Helper()
	w, e := twin.Open(d, 0, placeOf(blocks))
	is(t, "a twin", e, api.OK)
	text, _ := w.Last()
	b, e := frame.Make(number, text)
	is(t, "a frame", e, api.OK)
	lay(t, d, 0, b)
}

func TestNoNumberIsLeft(t *testing.T) {
	d := device.New(sectorsOf(4))
	s := opened(t, d, 0, 4)
	i := applies(t, s, fresh(4), write(1, 0, 3))
	saves(t, s)
	numbered(t, d, 4, greatest-1)
	s = opened(t, d, 0, 4)
	i = applies(t, s, i, write(2, 1, 3))
	saves(t, s)
	for range 2 {
		i = applies(t, s, i, write(i.Marks.Low+1, 2, 2))
		was := d.Done()
		is(t, "none is left", s.Save(), api.ErrFull)
		if d.Loose() != 0 || d.Done() != was+1 {
			t.Error("it was not flushed, or something was written")
		}
		says(t, "none is left", s, i, 2)
	}
	i = applies(t, s, i, write(5, 0, 4))
	other := fresh(4)
	other.Blocks = text(70, 32)
	unchanged(t, "an import", d, s, func() { is(t, "an import", s.Import(other), api.ErrFull) })
	says(t, "behind an import", s, i, 2)
	powerless(d)
	is(t, "an import without power", s.Import(other), api.ErrDown)
	d.Crash(64, 64, 64, 64)
	says(t, "with power", s, i, 2)
}

func TestImageOfWhatWasApplied(t *testing.T) {
	g := rand.New(rand.NewSource(163))
	for range 40 {
		blocks := 1 + uint32(g.Intn(64))
		d := device.New(sectorsOf(blocks))
		s := opened(t, d, 0, blocks)
		i := fresh(blocks)
		for _, n := range g.Perm(60) {
			from := uint32(g.Intn(int(blocks)))
			i = applies(t, s, i, write(uint64(n)+1, from, 1+uint32(g.Intn(int(min(8, blocks-from))))))
		}
		got, e := s.Image()
		if got != i || e != api.OK || !image.Good(got) {
			t.Fatalf("%d: %+v, not %+v", int(e), got, i)
		}
		other := opened(t, device.New(sectorsOf(blocks)), 0, blocks)
		is(t, "an import", other.Import(got), api.OK)
		says(t, "another store", other, i, i.Marks.Low)
	}
}

// images is images of so many blocks, no two alike: of noughts, of some noughts, and of none.
func images(blocks uint32) []image.Image {
	some := fresh(blocks)
	some.Blocks = text(200, 8) + noughts(8*int(blocks)-8)
	some.Marks = api.Marks{Low: 9, Bits: 6}
	some.Done[2] = done.Client{Top: 40, Bits: 0x8001}
	all := fresh(blocks)
	all.Blocks = text(300, 8*int(blocks))
	all.Marks = api.Marks{Low: 1 << 40, Bits: 1 << 63}
	all.Done[0] = done.Client{Top: greatest, Bits: math.MaxUint16}
	marked := fresh(blocks)
	marked.Marks.Low = 3
	return []image.Image{fresh(blocks), some, all, marked}
}

func TestImport(t *testing.T) {
	for _, blocks := range []uint32{1, 2, 8, 9, 63, 64} {
		for _, from := range images(blocks) {
			for _, to := range images(blocks) {
				d := device.New(sectorsOf(blocks) + 2)
				s := opened(t, d, 1, blocks)
				is(t, "an import", s.Import(from), api.OK)
				says(t, "an import", s, from, from.Marks.Low)
				is(t, "an import", s.Import(to), api.OK)
				says(t, "an import behind another one", s, to, to.Marks.Low)
				d.Crash()
				s = opened(t, d, 1, blocks)
				says(t, "opened again", s, to, to.Marks.Low)
				i := applies(t, s, to, write(to.Marks.Low+1, blocks-1, 1))
				says(t, "it goes on", s, i, to.Marks.Low)
				is(t, "an import of what is there", s.Import(i), api.OK)
				says(t, "an import of what is there", s, i, i.Marks.Low)
			}
		}
	}
}

func TestImportWhereNothingIsFreeButForAnEntry(t *testing.T) {
	for _, blocks := range []uint32{8, 9, 64} {
		for _, to := range images(blocks) {
			d := device.New(sectorsOf(blocks))
			s := opened(t, d, 0, blocks)
			i := fresh(blocks)
			index := uint64(0)
			for round := range 2 {
				for from := uint32(0); from < blocks; from += 8 {
					index++
					i = applies(t, s, i, write(index, from, min(8, blocks-from)))
				}
				if round == 0 {
					saves(t, s)
				}
			}
			is(t, "an import", s.Import(to), api.OK)
			says(t, "an import", s, to, to.Marks.Low)
			says(t, "opened again", opened(t, d, 0, blocks), to, to.Marks.Low)
		}
	}
}

func TestImportOfWhatIsNotGood(t *testing.T) {
	d := device.New(sectorsOf(8))
	s := opened(t, d, 0, 8)
	applies(t, s, fresh(8), write(1, 0, 8), write(3, 2, 2))
	saves(t, s)
	bad := fresh(8)
	bad.Marks = api.Marks{Low: 5, Bits: 1}
	high := fresh(8)
	high.Marks.Low = limit + 1
	fewer, more := fresh(8), fresh(8)
	fewer.Blocks, more.Blocks = noughts(63), noughts(65)
	l := []image.Image{{}, bad, high, fewer, more, fresh(1), fresh(7), fresh(9), fresh(16), fresh(64), fresh(65), fresh(8 + 1<<10)}
	for k, i := range l {
		unchanged(t, "an image that is none of these", d, s, func() { is(t, "such an image", s.Import(i), api.ErrArg) })
		if t.Failed() {
			t.Fatalf("the image %d", k)
		}
	}
	powerless(d)
	is(t, "no power, and an image that is none of these", s.Import(bad), api.ErrArg)
	is(t, "no power", s.Import(fresh(8)), api.ErrDown)
}

func TestWhatWasImportedStaysAsItIs(t *testing.T) {
	d := device.New(sectorsOf(4))
	s := opened(t, d, 0, 4)
	i := images(4)[2]
	is(t, "an import", s.Import(i), api.OK)
	applies(t, s, i, write(i.Marks.Low+1, 0, 4))
	if i != images(4)[2] {
		t.Error("what was handed in is changed")
	}
}

// P16.4

// scene is a store of six blocks at a moment: what it has, and what was saved last.
type scene struct {
	d         *device.Device
	s         *store.Store
	now, safe image.Image
}

const sceneBlocks = 6

// begin is a scene behind so many rounds, in each of which something is saved, and something is not.
func begin(t *testing.T, rounds int) scene {
	t.Helper()
	d := device.New(sectorsOf(sceneBlocks) + 2)
	c := scene{d: d, s: opened(t, d, 1, sceneBlocks), now: fresh(sceneBlocks), safe: fresh(sceneBlocks)}
	for k := range uint64(rounds) {
		c.now = applies(t, c.s, c.now, write(5*k+1, uint32(k%3), 4), write(5*k+3, 5, 1))
		saves(t, c.s)
		c.safe = c.now
		c.now = applies(t, c.s, c.now, write(5*k+2, uint32(k%5), 2), noop(5*k+5), write(5*k+4, 0, 6))
	}
	return c
}

// keeps is what may be kept of n changes: nothing, all, each part of one alone, and each part of one but all of the others.
func keeps(n int) [][]int {
	l := [][]int{nil, slices.Repeat([]int{64}, n)}
	for at := range n {
		for _, part := range []int{1, 7, 8, 9, 32, 55, 56, 57, 63, 64} {
			alone := make([]int, n)
			alone[at] = part
			most := slices.Repeat([]int{64}, n)
			most[at] = part - 1
			l = append(l, alone, most)
		}
	}
	return l
}

// cutsAt does something again and again, the power going at each change and each flush of it, each part of what waits being kept, and tells of each end.
func cutsAt(t *testing.T, start func() scene, act func(c scene) api.Errno, then func(c scene, all bool)) {
	t.Helper()
	for n := 0; ; n++ {
		c := start()
		c.d.Fuse(n)
		wrong := act(c)
		if wrong == api.OK {
			if n == 0 {
				t.Error("the power never went")
			}
			return
		}
		is(t, "an act", wrong, api.ErrDown)
		for k, keep := range keeps(c.d.Loose()) {
			if k > 0 { // a store can't be cloned: it is all done again
				c = start()
				c.d.Fuse(n)
				act(c)
			}
			c.d.Crash(keep...)
			then(c, k == 1)
		}
		if t.Failed() {
			return
		}
	}
}

// oneOf tells which of some images a store has that is opened again, and says all of; -1, if none.
func oneOf(t *testing.T, d *device.Device, l ...image.Image) int {
	t.Helper()
	s := opened(t, d, 1, uint32(len(l[0].Blocks)/8))
	got, e := s.Image()
	is(t, "an image", e, api.OK)
	which := slices.Index(l, got)
	if which >= 0 {
		says(t, "opened again", s, l[which], l[which].Marks.Low)
	}
	return which
}

func TestThePowerGoesInAnApply(t *testing.T) {
	for rounds := range 3 {
		start := func() scene { return begin(t, rounds) }
		e := write(uint64(5*rounds+1), 1, 5)
		cutsAt(t, start, func(c scene) api.Errno { return c.s.Apply(e) }, func(c scene, all bool) {
			remembers(t, "nothing is applied", c.s, c.now, c.safe.Marks.Low)
			if all {
				says(t, "nothing is applied, where all is kept", c.s, c.now, c.safe.Marks.Low)
			}
			if oneOf(t, c.d, c.safe) != 0 {
				t.Fatalf("%d rounds: it is not what was saved last", rounds)
			}
		})
	}
}

func TestThePowerGoesInASave(t *testing.T) {
	for rounds := 1; rounds < 4; rounds++ {
		seen := [2]int{}
		start := func() scene { return begin(t, rounds) }
		cutsAt(t, start, func(c scene) api.Errno { return c.s.Save() }, func(c scene, all bool) {
			remembers(t, "it is not saved", c.s, c.now, c.safe.Marks.Low)
			if all {
				says(t, "it is not saved, where all is kept", c.s, c.now, c.safe.Marks.Low)
			}
			which := oneOf(t, c.d, c.safe, c.now)
			if which < 0 {
				t.Fatalf("%d rounds: it is neither what was saved last, nor what was being saved", rounds)
			}
			seen[which]++
		})
		if seen[0] == 0 || seen[1] == 0 {
			t.Errorf("%d rounds: %v", rounds, seen)
		}
	}
}

func TestThePowerGoesInAnImport(t *testing.T) {
	for rounds := range 3 {
		for k, i := range images(sceneBlocks) {
			if rounds == 0 && k == 0 {
				continue // both are alike
			}
			seen := [2]int{}
			start := func() scene { return begin(t, rounds) }
			cutsAt(t, start, func(c scene) api.Errno { return c.s.Import(i) }, func(c scene, _ bool) {
				remembers(t, "it is not imported", c.s, c.now, c.safe.Marks.Low)
				which := oneOf(t, c.d, c.safe, i)
				if which < 0 {
					t.Fatalf("%d rounds: it is neither what was saved last, nor what was being imported", rounds)
				}
				seen[which]++
			})
			if seen[0] == 0 || seen[1] == 0 {
				t.Errorf("%d rounds: %v", rounds, seen)
			}
		}
	}
}

func TestOnceMoreBehindIt(t *testing.T) {
	g := rand.New(rand.NewSource(164))
	first := func() scene { return begin(t, 2) }
	cutsAt(t, first, func(c scene) api.Errno { return c.s.Save() }, func(c scene, _ bool) {
		if g.Intn(8) != 0 { // an eighth of all ends is enough to go on with
			return
		}
		was := c.d
		again := func() scene {
			d := was.Clone()
			s := opened(t, d, 1, sceneBlocks)
			i, e := s.Image()
			is(t, "an image", e, api.OK)
			return scene{d: d, s: s, safe: i, now: applies(t, s, i, write(11, 0, 5), write(12, 1, 5), write(13, 0, 6))}
		}
		cutsAt(t, again, func(c scene) api.Errno { return c.s.Save() }, func(c scene, _ bool) {
			if oneOf(t, c.d, c.safe, c.now) < 0 {
				t.Fatal("it is neither what was saved last, nor what was being saved, the second time")
			}
		})
	})
}

// P16.5

// teller goes on with a store as chance has it, beside a telling of its own.
type teller struct {
	scene
	t      *testing.T
	g      *rand.Rand
	blocks uint32
	number int
	seen   map[string]int
}

// drawn is an entry, or nearly one.
func (x *teller) drawn() api.Entry {
	x.number++
	e := write(x.now.Marks.Low+uint64(x.g.Intn(6)), uint32(x.g.Intn(int(x.blocks))), 1+uint32(x.g.Intn(8)))
	if x.g.Intn(10) > 0 {
		e.Span.Count = min(e.Span.Count, x.blocks-e.Span.From)
	}
	e.Client, e.Req = uint64(x.g.Intn(10)), uint64(x.g.Intn(x.number+1))
	e.Data = text(x.number, 8*int(e.Span.Count)+x.g.Intn(30)/29)
	switch x.g.Intn(30) {
	case 0:
		e.Kind = x.g.Intn(4)
	case 1, 2, 3:
		e.Kind = api.KindNoop
	case 4:
		e.Index += 60
	case 5:
		e.Data = noughts(len(e.Data))
	}
	return e
}

// image is an image of as many blocks, or, seldom, of another number.
func (x *teller) image() image.Image {
	x.number++
	l := images(x.blocks)
	i := l[x.g.Intn(len(l))]
	i.Blocks = text(x.number, len(i.Blocks))
	if x.g.Intn(10) == 0 {
		i.Blocks += noughts(8)
	}
	if x.g.Intn(2) == 0 {
		i.Marks.Low = x.now.Marks.Low
	}
	return i
}

// lost lets the power go, and come again: what is there then must be one of these.
func (x *teller) lost(may ...image.Image) {
	x.t.Helper()
	keep := slices.Repeat([]int{64}, x.d.Loose())
	all := x.g.Intn(3) == 0
	for k := range keep {
		switch {
		case all:
		case x.g.Intn(2) == 0:
			keep[k] = x.g.Intn(65)
		default:
			keep[k] = 64 * x.g.Intn(2)
		}
	}
	x.d.Crash(keep...)
	x.s = opened(x.t, x.d, 1, x.blocks)
	got, e := x.s.Image()
	which := slices.Index(may, got)
	if which < 0 || e != api.OK {
		x.t.Fatalf("%d: %+v, none of %+v", int(e), got, may)
	}
	x.now, x.safe = got, got
	x.seen[[]string{"the old one", "the new one"}[which]]++ // where both are alike it is the old one
}

// apply applies an entry, whether the power goes in it or not.
func (x *teller) apply() {
	x.t.Helper()
	e := x.drawn()
	want, wrong := does(x.now, e)
	got := x.s.Apply(e)
	if got == api.ErrDown {
		remembers(x.t, "nothing is applied", x.s, x.now, x.safe.Marks.Low)
		x.lost(x.safe)
		return
	}
	if got != wrong {
		x.t.Fatalf("%d, not %d, of %+v", int(got), int(wrong), e)
	}
	x.now = want
	x.seen["applied"] += int(1 - min(1, wrong))
}

// save saves likewise.
func (x *teller) save() {
	x.t.Helper()
	if wrong := x.s.Save(); wrong != api.OK {
		is(x.t, "a save", wrong, api.ErrDown)
		x.lost(x.safe, x.now)
		return
	}
	x.safe = x.now
}

// bring imports an image likewise.
func (x *teller) bring() {
	x.t.Helper()
	i := x.image()
	switch wrong := x.s.Import(i); {
	case len(i.Blocks) != len(x.now.Blocks):
		is(x.t, "another number of blocks", wrong, api.ErrArg)
	case wrong != api.OK:
		is(x.t, "an import", wrong, api.ErrDown)
		x.lost(x.safe, i)
	default:
		x.now, x.safe = i, i
	}
}

func (x *teller) step() {
	x.t.Helper()
	x.d.Fuse(x.g.Intn(24) - 12)
	switch x.g.Intn(20) {
	case 0, 1, 2:
		x.save()
	case 3:
		x.bring()
	case 4:
		x.d.Fuse(-1)
		is(x.t, "somebody else flushes", x.d.Flush(), api.OK)
	case 5:
		x.lost(x.safe)
	default:
		x.apply()
	}
	x.d.Fuse(-1)
	says(x.t, "a telling of its own", x.s, x.now, x.safe.Marks.Low)
}

func TestAgainstATellingOfItsOwn(t *testing.T) {
	g := rand.New(rand.NewSource(165))
	seen := map[string]int{}
	for range 250 {
		blocks := 1 + uint32(g.Intn(16))
		d := device.New(sectorsOf(blocks) + 2)
		x := &teller{t: t, g: g, blocks: blocks, seen: seen}
		x.scene = scene{d: d, s: opened(t, d, 1, blocks), now: fresh(blocks), safe: fresh(blocks)}
		for range 150 {
			x.step()
			if t.Failed() {
				t.Fatal("the telling ends here")
			}
		}
	}
	for _, what := range []string{"the old one", "the new one", "applied"} {
		if seen[what] < 100 {
			t.Errorf("%s: only %d times", what, seen[what])
		}
	}
}

func TestInWhichOrderEntriesAreApplied(t *testing.T) {
	g := rand.New(rand.NewSource(166))
	for range 200 {
		blocks := 2 + uint32(g.Intn(8))
		d := device.New(sectorsOf(blocks))
		s := opened(t, d, 0, blocks)
		want := []byte(noughts(8 * int(blocks)))
		for _, n := range g.Perm(40) {
			e := write(uint64(n)+1, uint32(g.Intn(int(blocks))), 1)
			is(t, "an entry", s.Apply(e), api.OK)
			copy(want[8*e.Span.From:], e.Data) // by what was applied last, and not by the index
			if got, e := s.Read(api.Span{Count: blocks}); got != string(want) || e != api.OK {
				t.Fatalf("%d: %q, not %q", int(e), got, want)
			}
		}
	}
}

func TestTwoStoresOnOneDevice(t *testing.T) {
	d := device.New(2 * sectorsOf(5))
	a, b := opened(t, d, 0, 5), opened(t, d, sectorsOf(5), 5)
	i, j := fresh(5), fresh(5)
	for index := uint64(1); index <= 60; index++ {
		i = applies(t, a, i, write(index, uint32(index%5), 1))
		j = applies(t, b, j, write(index, uint32(index%3), 3))
		if index%7 == 0 {
			saves(t, a)
		}
	}
	saves(t, b)
	says(t, "the first one", a, i, 56)
	says(t, "the second one", b, j, 60)
	d.Crash()
	says(t, "the second one, opened again", opened(t, d, sectorsOf(5), 5), j, 60)
}
