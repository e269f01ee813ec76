package alloc_test

import (
	"math"
	"math/rand"
	"slices"
	"testing"

	"keelson/alloc"
	"keelson/api"
)

// sizes is numbers of places that fill words, and rows of words, and some that don't.
var sizes = []int{1, 2, 3, 63, 64, 65, 127, 128, 129, 200, 511, 512, 513, 1000, 1023, 1024, 1025, api.MaxSectors - 1, api.MaxSectors}

// beyond is what is no place of n.
func beyond(n int) []int {
	return []int{math.MinInt, math.MinInt + 1, -1 << 32, -513, -512, -65, -64, -63, -2, -1, n, n + 1, n + 63, n + 64, n + 512, api.MaxSectors, api.MaxSectors + 1, 1 << 32, 1<<32 + 1, math.MaxInt - 1, math.MaxInt}
}

// model is places as the tests tell them: of each one whether it is taken.
type model []bool

func (m model) free() int {
	n := 0
	for _, taken := range m {
		if !taken {
			n++
		}
	}
	return n
}

// take takes the first free one, or tells that there is none.
func (m model) take() (int, bool) {
	i := slices.Index(m, false)
	if i < 0 {
		return 0, false
	}
	m[i] = true
	return i, true
}

func (m model) has(i int) bool {
	return i >= 0 && i < len(m) && m[i]
}

func (m model) hold(i int) api.Errno {
	switch {
	case i < 0 || i >= len(m):
		return api.ErrRange
	case m[i]:
		return api.ErrThere
	}
	m[i] = true
	return api.OK
}

func (m model) give(i int) api.Errno {
	switch {
	case i < 0 || i >= len(m):
		return api.ErrRange
	case !m[i]:
		return api.ErrNone
	}
	m[i] = false
	return api.OK
}

func is(t *testing.T, what string, got, want api.Errno) {
	t.Helper()
	if got != want {
		t.Errorf("%s: %d, not %d", what, int(got), int(want))
	}
}

func made(t *testing.T, n int) *alloc.Alloc {
	t.Helper()
	a := alloc.New(n)
	if a == nil {
		t.Fatalf("%d places: nil", n)
	}
	return a
}

// full is n places, all of which are taken.
func full(t *testing.T, n int) *alloc.Alloc {
	t.Helper()
	a := made(t, n)
	_, e := a.Some(n)
	is(t, "all places", e, api.OK)
	return a
}

// looks tells whether all that tells of places tells what m does.
func looks(t *testing.T, what string, a *alloc.Alloc, m model) {
	t.Helper()
	if a.Len() != len(m) || a.Free() != m.free() {
		t.Errorf("%s: %d of %d are free, not %d of %d", what, a.Free(), a.Len(), m.free(), len(m))
	}
	for i, taken := range m {
		if a.Has(i) != taken {
			t.Fatalf("%s: %d: %v, not %v", what, i, !taken, taken)
		}
	}
	for _, i := range beyond(len(m)) {
		if a.Has(i) != m.has(i) {
			t.Errorf("%s: %d, which is no place of %d: %v", what, i, len(m), a.Has(i))
		}
	}
}

func takes(t *testing.T, what string, a *alloc.Alloc, want int) {
	t.Helper()
	if i, e := a.Take(); i != want || e != api.OK {
		t.Errorf("%s: %d, %d, not %d", what, i, int(e), want)
	}
}

// refuses tells whether Take has this error, and no place.
func refuses(t *testing.T, what string, a *alloc.Alloc, want api.Errno) {
	t.Helper()
	if i, e := a.Take(); i != 0 || e != want {
		t.Errorf("%s: %d, %d, not %d", what, i, int(e), int(want))
	}
}

func takesSome(t *testing.T, what string, a *alloc.Alloc, want ...int) {
	t.Helper()
	if l, e := a.Some(len(want)); !slices.Equal(l, want) || e != api.OK {
		t.Errorf("%s: %v, %d, not %v", what, l, int(e), want)
	}
}

// refusesSome tells whether Some has this error, and no places.
func refusesSome(t *testing.T, what string, a *alloc.Alloc, count int, want api.Errno) {
	t.Helper()
	if l, e := a.Some(count); len(l) != 0 || e != want {
		t.Errorf("%s: %d: %v, %d, not %d", what, count, l, int(e), int(want))
	}
}

// upTo is 0 to n less 1.
func upTo(n int) []int {
	l := make([]int, n)
	for i := range l {
		l[i] = i
	}
	return l
}

// P13.1

func TestNew(t *testing.T) {
	for _, n := range []int{math.MinInt, math.MinInt + 1, -1 << 32, -api.MaxSectors, -2, -1, 0, api.MaxSectors + 1, api.MaxSectors + 2, 1 << 32, 1<<32 + 1, math.MaxInt - 1, math.MaxInt} {
		if alloc.New(n) != nil {
			t.Errorf("%d places", n)
		}
	}
	for _, n := range sizes {
		looks(t, "a new one", made(t, n), make(model, n))
	}
	for n := 1; n <= 1100; n++ {
		if a := made(t, n); a.Len() != n || a.Free() != n || a.Has(0) || a.Has(n-1) || a.Has(n) {
			t.Errorf("%d places: %d of %d are free", n, a.Free(), a.Len())
		}
	}
}

func TestTwoNewOnes(t *testing.T) {
	a, b := made(t, 70), made(t, 70)
	takes(t, "one", a, 0)
	looks(t, "the other", b, make(model, 70))
	takes(t, "the other", b, 0)
}

func TestTheExample(t *testing.T) {
	a := made(t, 3)
	takes(t, "the first time", a, 0)
	takes(t, "the second time", a, 1)
	is(t, "giving 0", a.Give(0), api.OK)
	takes(t, "0 again", a, 0)
	looks(t, "behind it", a, model{true, true, false})
}

func TestTakeUntilNoneIsFree(t *testing.T) {
	for _, n := range sizes {
		a := made(t, n)
		for i := range n {
			takes(t, "one after the other", a, i)
			if a.Free() != n-i-1 || a.Len() != n || !a.Has(i) || a.Has(i+1) {
				t.Fatalf("%d of %d: %d of %d are free", i, n, a.Free(), a.Len())
			}
		}
		m := make(model, n)
		for i := range m {
			m[i] = true
		}
		for range 3 {
			refuses(t, "none is free", a, api.ErrFull)
			looks(t, "none is free", a, m)
		}
		is(t, "giving the last one", a.Give(n-1), api.OK)
		takes(t, "the last one", a, n-1)
		refuses(t, "none is free again", a, api.ErrFull)
	}
}

func TestTakeBehindAGive(t *testing.T) {
	a := made(t, 200)
	takesSome(t, "the first 150", a, upTo(150)...)
	is(t, "a lower one", a.Give(70), api.OK)
	takes(t, "behind a lower one", a, 70)
	takes(t, "above all", a, 150)
	is(t, "a high one", a.Give(149), api.OK)
	is(t, "a low one", a.Give(3), api.OK)
	is(t, "one between them", a.Give(64), api.OK)
	for _, want := range []int{3, 64, 149, 151} {
		takes(t, "from the lowest one on", a, want)
	}
	is(t, "one that is held", a.Hold(199), api.OK)
	is(t, "a higher one", a.Give(199), api.OK)
	takes(t, "below a higher one", a, 152)
	is(t, "one ahead of it", a.Hold(153), api.OK)
	takes(t, "past one that is held", a, 154)
}

func TestTakeAtEachPlace(t *testing.T) {
	for _, n := range []int{1, 64, 65, 200, 512, 513, 1100} {
		a := full(t, n)
		for i := range n {
			is(t, "giving it", a.Give(i), api.OK)
			if a.Has(i) || a.Free() != 1 {
				t.Errorf("%d of %d is given: %d are free", i, n, a.Free())
			}
			takes(t, "the only one", a, i)
			refuses(t, "none", a, api.ErrFull)
		}
	}
}

func TestSome(t *testing.T) {
	a := made(t, 100)
	m := make(model, 100)
	takesSome(t, "none", a)
	looks(t, "none", a, m)
	takesSome(t, "one", a, 0)
	m[0] = true
	looks(t, "one", a, m)
	is(t, "holding", a.Hold(3), m.hold(3))
	is(t, "holding", a.Hold(66), m.hold(66))
	takesSome(t, "past one that is held", a, 1, 2, 4, 5)
	for _, i := range []int{1, 2, 4, 5} {
		m[i] = true
	}
	looks(t, "past one that is held", a, m)
	for _, count := range []int{math.MinInt, math.MinInt + 1, -1 << 32, -2, -1} {
		refusesSome(t, "less than 0", a, count, api.ErrArg)
		looks(t, "less than 0", a, m)
	}
	free := m.free()
	for _, count := range []int{free + 1, free + 2, 100, 101, api.MaxSectors, api.MaxSectors + 1, 1 << 32, 1<<32 + 1, 1 << 62, math.MaxInt - free, math.MaxInt - free + 1, math.MaxInt - 1, math.MaxInt} {
		refusesSome(t, "too many", a, count, api.ErrFull)
		looks(t, "too many", a, m)
	}
	var rest []int
	for i := range m {
		if !m[i] {
			rest = append(rest, i)
		}
	}
	takesSome(t, "as many as are free", a, rest...)
	refuses(t, "none is left", a, api.ErrFull)
	refusesSome(t, "one where none is free", a, 1, api.ErrFull)
	refusesSome(t, "less than 0 where none is free", a, -1, api.ErrArg)
	takesSome(t, "none where none is free", a)
	if a.Free() != 0 || a.Len() != 100 {
		t.Errorf("%d of %d are free", a.Free(), a.Len())
	}
}

func TestSomeOfAll(t *testing.T) {
	for _, n := range sizes {
		a := made(t, n)
		refusesSome(t, "one too many", a, n+1, api.ErrFull)
		looks(t, "one too many", a, make(model, n))
		takesSome(t, "all", a, upTo(n)...)
		refuses(t, "none is left", a, api.ErrFull)
		refusesSome(t, "none is left", a, 1, api.ErrFull)
	}
}

func TestSomeIsMemoryOfItsOwn(t *testing.T) {
	a := made(t, 10)
	p, _ := a.Some(3)
	q, _ := a.Some(3)
	clear(p[:cap(p)])
	if !slices.Equal(q, []int{3, 4, 5}) {
		t.Errorf("memory is shared: %v", q)
	}
	clear(q[:cap(q)])
	looks(t, "behind it", a, model{true, true, true, true, true, true, false, false, false, false})
}

// places is the first and the last place of each word, as far as there are such, and some between them.
func places(n int) []int {
	var l []int
	for i := range n {
		if k := i % 64; k == 0 || k == 63 || k == 31 || i == n-1 {
			l = append(l, i)
		}
	}
	return l
}

func TestHoldAndGive(t *testing.T) {
	for _, n := range []int{1, 2, 63, 64, 65, 128, 200, 511, 512, 513, 1025} {
		a, m := made(t, n), make(model, n)
		for _, i := range beyond(n) {
			is(t, "holding what is no place", a.Hold(i), m.hold(i))
			is(t, "giving what is no place", a.Give(i), m.give(i))
		}
		looks(t, "what is no place", a, m)
		for _, i := range places(n) {
			is(t, "giving a free one", a.Give(i), api.ErrNone)
			looks(t, "giving a free one", a, m)
			is(t, "holding a free one", a.Hold(i), api.OK)
			m[i] = true
			looks(t, "holding a free one", a, m)
			is(t, "holding a taken one", a.Hold(i), api.ErrThere)
			looks(t, "holding a taken one", a, m)
		}
		for _, i := range beyond(n) {
			is(t, "holding what is no place", a.Hold(i), m.hold(i))
			is(t, "giving what is no place", a.Give(i), m.give(i))
		}
		for _, i := range places(n) {
			is(t, "giving a taken one", a.Give(i), api.OK)
			m[i] = false
			looks(t, "giving a taken one", a, m)
			is(t, "giving it again", a.Give(i), api.ErrNone)
			looks(t, "giving it again", a, m)
		}
	}
}

func TestHoldAndGiveAtTheLimit(t *testing.T) {
	a := made(t, api.MaxSectors)
	last := api.MaxSectors - 1
	is(t, "one beyond the last one", a.Hold(api.MaxSectors), api.ErrRange)
	is(t, "giving one beyond the last one", a.Give(api.MaxSectors), api.ErrRange)
	is(t, "the last one", a.Hold(last), api.OK)
	is(t, "the last one, twice", a.Hold(last), api.ErrThere)
	if !a.Has(last) || a.Has(last-1) || a.Has(api.MaxSectors) || a.Free() != last {
		t.Errorf("%d are free", a.Free())
	}
	takesSome(t, "all but the last one", a, upTo(last)...)
	refuses(t, "none is left", a, api.ErrFull)
	is(t, "giving the last one", a.Give(last), api.OK)
	takes(t, "the last one", a, last)
}

func TestWhatIsTakenAndHeldIsGiven(t *testing.T) {
	a := made(t, 130)
	takesSome(t, "two", a, 0, 1)
	is(t, "holding what was taken", a.Hold(1), api.ErrThere)
	is(t, "giving what was taken", a.Give(1), api.OK)
	is(t, "holding what was given", a.Hold(1), api.OK)
	takes(t, "past what is held", a, 2)
	is(t, "giving what was held", a.Give(1), api.OK)
	takes(t, "what was held", a, 1)
	is(t, "the last place", a.Hold(129), api.OK)
	takesSome(t, "all but the last place", a, upTo(129)[3:]...)
	refuses(t, "none is left", a, api.ErrFull)
}

func TestCloneGoesItsOwnWay(t *testing.T) {
	for _, n := range []int{1, 64, 65, 600, api.MaxSectors} {
		a, m := made(t, n), make(model, n)
		for _, i := range places(n) {
			if i%3 != 0 {
				is(t, "holding", a.Hold(i), m.hold(i))
			}
		}
		c := a.Clone()
		if c == a {
			t.Fatal("a clone is the same one")
		}
		looks(t, "a clone", c, m)
		first, _ := slices.Clone(m).take()
		takes(t, "the first one", a, first)
		looks(t, "a clone of one that takes", c, m)
		is(t, "the clone has it free", c.Give(first), api.ErrNone)
		takes(t, "the clone", c, first)
		is(t, "the clone gives", c.Give(first), api.OK)
		if !a.Has(first) || c.Has(first) {
			t.Errorf("%d: %v, %v", first, a.Has(first), c.Has(first))
		}
		_, e := c.Some(c.Free())
		is(t, "the clone takes all", e, api.OK)
		m[first] = true
		looks(t, "one whose clone takes all", a, m)
		_, e = a.Some(a.Free())
		is(t, "all of it", e, api.OK)
		is(t, "giving", a.Give(0), api.OK)
		refuses(t, "a clone of one that gives", c, api.ErrFull)
	}
}

func TestCloneOfAClone(t *testing.T) {
	a := made(t, 66)
	b := a.Clone()
	takes(t, "a clone", b, 0)
	c := b.Clone()
	takes(t, "its clone", c, 1)
	is(t, "its clone gives", c.Give(0), api.OK)
	if a.Free() != 66 || b.Free() != 65 || c.Free() != 65 || !b.Has(0) || b.Has(1) || c.Has(0) || !c.Has(1) {
		t.Errorf("%d, %d, %d are free", a.Free(), b.Free(), c.Free())
	}
}

func TestNil(t *testing.T) {
	var a *alloc.Alloc
	refuses(t, "nil", a, api.ErrNil)
	for _, n := range append(beyond(1), 0) {
		refusesSome(t, "nil", a, n, api.ErrNil)
		is(t, "holding of nil", a.Hold(n), api.ErrNil)
		is(t, "giving of nil", a.Give(n), api.ErrNil)
		if a.Has(n) {
			t.Errorf("nil has %d", n)
		}
	}
	if a.Free() != 0 || a.Len() != 0 || a.Clone() != nil {
		t.Errorf("nil: %d of %d are free, %v", a.Free(), a.Len(), a.Clone())
	}
}

func hasNoPlaces(t *testing.T, what string, a *alloc.Alloc) {
	t.Helper()
	for range 2 { // nothing is changed by any of it
		looks(t, what, a, model{})
		refuses(t, what, a, api.ErrFull)
		takesSome(t, what, a)
		for _, n := range append(beyond(0), 0, 1) {
			want := api.ErrFull
			if n < 0 {
				want = api.ErrArg
			}
			if n != 0 {
				refusesSome(t, what, a, n, want)
			}
			is(t, what+", holding", a.Hold(n), api.ErrRange)
			is(t, what+", giving", a.Give(n), api.ErrRange)
		}
	}
}

func TestOneThatNoCallMade(t *testing.T) {
	a := &alloc.Alloc{}
	hasNoPlaces(t, "a plain one", a)
	c := a.Clone()
	if c == nil || c == a {
		t.Fatalf("its clone is %p of %p", c, a)
	}
	hasNoPlaces(t, "its clone", c)
	hasNoPlaces(t, "new's", new(alloc.Alloc))
}

// P13.2

// stepped is places, a model of them, and what is out: each place that somebody has.
type stepped struct {
	a   *alloc.Alloc
	m   model
	out map[int]bool
}

// gets tells that somebody gets a place: nobody else may have it.
func (s *stepped) gets(t *testing.T, i int) {
	t.Helper()
	if s.out[i] {
		t.Fatalf("%d is taken twice", i)
	}
	s.out[i] = true
}

func (s *stepped) step(t *testing.T, g *rand.Rand) {
	t.Helper()
	i := g.Intn(len(s.m)+4) - 2
	switch g.Intn(6) {
	case 0, 1:
		want, ok := s.m.take()
		if !ok {
			refuses(t, "a step", s.a, api.ErrFull)
			return
		}
		takes(t, "a step", s.a, want)
		s.gets(t, want)
	case 2:
		s.some(t, g.Intn(1+g.Intn(9)))
	case 3:
		want := s.m.hold(i)
		is(t, "holding", s.a.Hold(i), want)
		if want == api.OK {
			s.gets(t, i)
		}
	default:
		is(t, "giving", s.a.Give(i), s.m.give(i))
		delete(s.out, i)
	}
}

func (s *stepped) some(t *testing.T, count int) {
	t.Helper()
	if count > s.m.free() {
		refusesSome(t, "a step", s.a, count, api.ErrFull)
		return
	}
	want := make([]int, count)
	for k := range want {
		want[k], _ = s.m.take()
		s.gets(t, want[k])
	}
	takesSome(t, "a step", s.a, want...)
}

func TestStepByStep(t *testing.T) {
	g := rand.New(rand.NewSource(13))
	for _, n := range []int{1, 2, 5, 63, 64, 65, 130, 513} {
		for range 10 {
			s := &stepped{a: made(t, n), m: make(model, n), out: map[int]bool{}}
			for range 300 {
				s.step(t, g)
				if g.Intn(8) == 0 {
					s.a = s.a.Clone()
				}
				looks(t, "a step", s.a, s.m)
			}
			for i := range n {
				if s.a.Has(i) != s.out[i] {
					t.Fatalf("%d of %d: %v, %v", i, n, s.a.Has(i), s.out[i])
				}
			}
		}
	}
}

func TestNoPlaceIsTakenTwice(t *testing.T) {
	g := rand.New(rand.NewSource(14))
	for _, n := range []int{1, 64, 300, 1100} {
		a, has := made(t, n), map[int]bool{}
		for range 5 * n {
			i, e := a.Take()
			if len(has) == n {
				is(t, "none is free", e, api.ErrFull)
			} else if e != api.OK || i < 0 || i >= n || has[i] {
				t.Fatalf("%d of %d, %d, is taken twice", i, n, int(e))
			} else {
				has[i] = true
			}
			if k := g.Intn(n); has[k] && g.Intn(2) == 0 {
				is(t, "giving", a.Give(k), api.OK)
				delete(has, k)
			}
		}
		if a.Free() != n-len(has) {
			t.Errorf("%d of %d are free, and %d taken", a.Free(), n, len(has))
		}
	}
}
