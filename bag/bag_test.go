package bag_test

import (
	"math"
	"math/rand"
	"slices"
	"testing"

	"keelson/api"
	"keelson/bag"
)

// filled is a bag with room for most things, and these in it.
func filled(t *testing.T, most int, things ...int) *bag.Bag[int] {
	t.Helper()
	b := bag.New[int](most)
	if b == nil {
		t.Fatalf("no bag for %d", most)
	}
	for _, x := range things {
		if !b.Put(x) {
			t.Fatalf("no room for %d", x)
		}
	}
	return b
}

// count is 0, 1 and so on, n of them.
func count(n int) []int {
	l := make([]int, n)
	for k := range l {
		l[k] = k
	}
	return l
}

// has tells what is wrong, if b has anything but these, or has lost other than so many.
func has(t *testing.T, what string, b *bag.Bag[int], lost uint64, want ...int) {
	t.Helper()
	if got := all(b); !slices.Equal(got, want) {
		t.Errorf("%s: %v, not %v", what, got, want)
	}
	if b.Len() != len(want) || b.Lost() != lost {
		t.Errorf("%s: %d things, not %d, and %d lost, not %d", what, b.Len(), len(want), b.Lost(), lost)
	}
	for i := range len(want) {
		if x, ok := b.At(i); !ok || x != want[i] {
			t.Errorf("%s: At(%d): %d, %v", what, i, x, ok)
		}
	}
	for _, i := range []int{math.MinInt, -1, len(want), len(want) + 1, math.MaxInt, -1 << 32, 1 << 32} {
		if x, ok := b.At(i); ok || x != 0 {
			t.Errorf("%s: At(%d): %d, %v", what, i, x, ok)
		}
	}
}

func all(b *bag.Bag[int]) []int {
	var l []int
	for x := range b.All() {
		l = append(l, x)
	}
	return l
}

// P18.1

func TestNew(t *testing.T) {
	for n := -3; n <= 2*api.MaxBag; n++ {
		if b := bag.New[int](n); (b != nil) != (n >= 1 && n <= api.MaxBag) {
			t.Errorf("New(%d): %v", n, b != nil)
		}
	}
	for _, n := range []int{math.MinInt, math.MaxInt, -1 << 32, 1<<32 + 1, 1<<16 + 1, -255} {
		if bag.New[string](n) != nil {
			t.Errorf("New(%d)", n)
		}
	}
	has(t, "a new bag", bag.New[int](1), 0)
	has(t, "a new bag", bag.New[int](api.MaxBag), 0)
}

func TestPutUntilFull(t *testing.T) {
	for _, most := range []int{1, 2, 3, 17, api.MaxBag - 1, api.MaxBag} {
		b := filled(t, most, count(most)...)
		has(t, "a full bag", b, 0, count(most)...)
		for k := range 3 {
			if b.Put(1000 + k) {
				t.Errorf("%d and one more", most)
			}
			has(t, "a bag put into once more", b, uint64(k+1), count(most)...)
		}
		b.Take(0)
		if !b.Put(77) {
			t.Errorf("no room behind a Take")
		}
		has(t, "a bag with room again", b, 3, append(count(most)[1:], 77)...)
	}
}

func TestExample(t *testing.T) {
	b := filled(t, 2, 1, 2)
	if b.Put(3) || b.Lost() != 1 {
		t.Error("3 is not lost")
	}
	for _, want := range []int{1, 2} {
		if x, ok := b.Take(0); !ok || x != want {
			t.Errorf("%d, %v", x, ok)
		}
	}
	if x, ok := b.Take(0); ok || x != 0 {
		t.Errorf("%d, %v", x, ok)
	}
}

func TestTake(t *testing.T) {
	for n := range 5 {
		for i := range n {
			b := filled(t, 5, count(n)...)
			if x, ok := b.Take(i); !ok || x != i {
				t.Errorf("Take(%d) of %d: %d, %v", i, n, x, ok)
			}
			has(t, "a bag taken of", b, 0, slices.Delete(count(n), i, i+1)...)
		}
		for _, i := range []int{math.MinInt, -1, n, n + 1, math.MaxInt, -1 << 32, 1 << 32} {
			b := filled(t, 5, count(n)...)
			if x, ok := b.Take(i); ok || x != 0 {
				t.Errorf("Take(%d) of %d: %d, %v", i, n, x, ok)
			}
			has(t, "a bag of which nothing was taken", b, 0, count(n)...)
		}
	}
}

func TestAtTakesNothing(t *testing.T) {
	b := filled(t, 3, 4, 5)
	for range 3 {
		if x, ok := b.At(1); !ok || x != 5 {
			t.Errorf("%d, %v", x, ok)
		}
	}
	has(t, "a bag looked at", b, 0, 4, 5)
}

func TestDouble(t *testing.T) {
	for n := range 5 {
		for i := range n {
			b := filled(t, 5, count(n)...)
			if e := b.Double(i); e != api.OK {
				t.Errorf("Double(%d) of %d: %d", i, n, int(e))
			}
			has(t, "a bag with one doubled", b, 0, append(count(n), i)...)
		}
		for _, i := range []int{math.MinInt, -1, n, n + 1, math.MaxInt, -1 << 32, 1 << 32} {
			b := filled(t, 5, count(n)...)
			if e := b.Double(i); e != api.ErrNone {
				t.Errorf("Double(%d) of %d: %d", i, n, int(e))
			}
			has(t, "a bag with none doubled", b, 0, count(n)...)
		}
	}
}

func TestDoubleFull(t *testing.T) {
	for _, most := range []int{1, 2, api.MaxBag} {
		b := filled(t, most, count(most)...)
		for _, i := range []int{0, most / 2, most - 1} {
			if e := b.Double(i); e != api.ErrFull {
				t.Errorf("Double(%d) of a full bag: %d", i, int(e))
			}
		}
		for _, i := range []int{-1, most, most + 1} {
			if e := b.Double(i); e != api.ErrNone {
				t.Errorf("Double(%d) of a full bag: %d", i, int(e))
			}
		}
		has(t, "a full bag, of which nothing is lost", b, 0, count(most)...)
		b.Put(5)
		b.Double(0)
		has(t, "a full bag, of which one is lost", b, 1, count(most)...)
	}
}

func TestAllLeftEarly(t *testing.T) {
	b := filled(t, 9, count(6)...)
	for stop := range 7 {
		var got []int
		for x := range b.All() {
			if x == stop {
				break
			}
			got = append(got, x)
		}
		if !slices.Equal(got, count(stop)) {
			t.Errorf("left at %d: %v", stop, got)
		}
	}
	has(t, "a bag that was gone through", b, 0, count(6)...)
	again := b.All()
	for range 2 {
		if got := slices.Collect(again); !slices.Equal(got, count(6)) {
			t.Errorf("again: %v", got)
		}
	}
}

func TestAllWhileItChanges(t *testing.T) {
	changes := map[string]struct {
		change func(b *bag.Bag[int])
		left   []int
	}{
		"Put":    {func(b *bag.Bag[int]) { b.Put(9) }, []int{0, 1, 2, 9, 9, 9}},
		"Take":   {func(b *bag.Bag[int]) { b.Take(0) }, nil},
		"last":   {func(b *bag.Bag[int]) { b.Take(b.Len() - 1) }, nil},
		"Double": {func(b *bag.Bag[int]) { b.Double(0) }, []int{0, 1, 2, 0, 0, 0}},
		"Clear":  {func(b *bag.Bag[int]) { b.Clear() }, nil},
		"both":   {func(b *bag.Bag[int]) { b.Take(1); b.Put(9) }, []int{0, 9, 9}},
	}
	for name, c := range changes {
		b := filled(t, 9, 0, 1, 2)
		var got []int
		for x := range b.All() {
			got = append(got, x)
			c.change(b)
		}
		if !slices.Equal(got, count(3)) {
			t.Errorf("%s: went through %v", name, got)
		}
		has(t, name, b, 0, c.left...)
	}
	b := filled(t, 9, 0, 1)
	before := b.All()
	b.Put(2)
	b.Take(0)
	if got := slices.Collect(before); !slices.Equal(got, count(2)) {
		t.Errorf("what was in it: %v", got)
	}
}

func TestAllWithinAll(t *testing.T) {
	b := filled(t, 9, 0, 1, 2)
	n := 0
	for x := range b.All() {
		for y := range b.All() {
			n += 10*x + y
		}
	}
	if n != 99 {
		t.Errorf("%d", n)
	}
}

func TestClear(t *testing.T) {
	b := bag.New[int](3)
	if n := b.Clear(); n != 0 {
		t.Errorf("Clear of an empty one: %d", n)
	}
	has(t, "an empty one", b, 0)
	for _, n := range []int{1, 2, 3} {
		for _, x := range count(n) {
			b.Put(x)
		}
		if got := b.Clear(); got != n {
			t.Errorf("Clear of %d: %d", n, got)
		}
		has(t, "a cleared one", b, 0)
		if b.Double(0) != api.ErrNone || b.Clear() != 0 {
			t.Error("something is left")
		}
		if !b.Put(8) {
			t.Error("no room behind a Clear")
		}
		has(t, "a cleared one that is put into", b, 0, 8)
		b.Clear()
	}
	for k := range 5 {
		if b.Put(k) != (k < 3) {
			t.Errorf("Put %d behind a Clear", k)
		}
	}
	b.Clear()
	has(t, "a cleared one that lost some", b, 2)
}

func TestClone(t *testing.T) {
	b := filled(t, 4, 0, 1, 2)
	c := b.Clone()
	has(t, "a clone", c, 0, 0, 1, 2)
	c.Put(3)
	c.Put(4)
	c.Take(0)
	has(t, "one whose clone changes", b, 0, 0, 1, 2)
	has(t, "a clone that changes", c, 1, 1, 2, 3)
	b.Put(5)
	b.Take(1)
	b.Double(0)
	has(t, "one that changes", b, 0, 0, 2, 5, 0)
	has(t, "a clone of one that changes", c, 1, 1, 2, 3)
	b.Clear()
	has(t, "a clone of one that is cleared", c, 1, 1, 2, 3)
	c.Put(6)
	d := c.Clone()
	if d.Put(7) {
		t.Error("a clone has more room")
	}
	c.Clear()
	has(t, "a clone of a full one that lost one", d, 2, 1, 2, 3, 6)
	if e := d.Double(0); e != api.ErrFull {
		t.Errorf("Double: %d", int(e))
	}
	has(t, "a clone of an empty one", bag.New[int](2).Clone(), 0)
}

// A Take moves things in a list: no clone's.
func TestCloneOfOneTakenOf(t *testing.T) {
	b := filled(t, 8, count(8)...)
	c := b.Clone()
	for range 4 {
		b.Take(1)
		b.Put(9)
	}
	has(t, "a clone", c, 0, count(8)...)
	has(t, "the other one", b, 0, 0, 5, 6, 7, 9, 9, 9, 9)
}

func hasNoRoom(t *testing.T, what string, b *bag.Bag[int], double api.Errno) {
	t.Helper()
	for range 2 {
		if b.Put(1) {
			t.Errorf("%s: Put", what)
		}
		for _, i := range []int{-1, 0, 1} {
			if x, ok := b.Take(i); ok || x != 0 {
				t.Errorf("%s: Take(%d): %d, %v", what, i, x, ok)
			}
			if e := b.Double(i); e != double {
				t.Errorf("%s: Double(%d): %d", what, i, int(e))
			}
		}
		if n := b.Clear(); n != 0 {
			t.Errorf("%s: Clear: %d", what, n)
		}
		has(t, what, b, 0)
	}
}

func TestNoBag(t *testing.T) {
	var none *bag.Bag[int]
	hasNoRoom(t, "nil", none, api.ErrNil)
	if none.Clone() != nil {
		t.Error("a clone of nil")
	}
	var plain bag.Bag[int]
	hasNoRoom(t, "a plain one", &plain, api.ErrNone)
	c := plain.Clone()
	if c == nil {
		t.Fatal("no clone of a plain one")
	}
	hasNoRoom(t, "a clone of a plain one", c, api.ErrNone)
}

func TestOtherThings(t *testing.T) {
	b := bag.New[[]string](2)
	if x, ok := b.Take(0); ok || x != nil {
		t.Error("a list of nothing")
	}
	b.Put([]string{"a"})
	b.Put(nil)
	b.Double(0)
	if x, ok := b.Take(0); !ok || len(x) != 1 || x[0] != "a" {
		t.Errorf("%v", x)
	}
	b.Double(0)
	if x, ok := b.Take(1); !ok || x != nil {
		t.Errorf("%v", x)
	}
}

// P18.2

// A bag tells the same as a list that is kept beside it, each thing being another one; what was put is taken once, but for what was doubled.
func TestBesideAList(t *testing.T) {
	for seed := range int64(60) {
		r := rand.New(rand.NewSource(seed))
		most := 1 + r.Intn(6)
		if seed%10 == 0 {
			most = api.MaxBag
		}
		b := bag.New[int](most)
		var list []int
		var lost uint64
		left := map[int]int{} // how often each thing may be taken
		for next := range 1500 {
			switch k := r.Intn(10); {
			case k < 5:
				if ok := b.Put(next); ok != (len(list) < most) {
					t.Fatalf("Put: %v", ok)
				} else if !ok {
					lost++
					continue
				}
				list = append(list, next)
				left[next]++
			case k < 7:
				i := r.Intn(len(list)+2) - 1
				x, ok := b.Take(i)
				if ok != (i >= 0 && i < len(list)) {
					t.Fatalf("Take: %v", ok)
				}
				if !ok {
					continue
				}
				if x != list[i] || left[x] == 0 {
					t.Fatalf("Take: %d", x)
				}
				left[x]--
				list = slices.Delete(list, i, i+1)
			case k < 9:
				i := r.Intn(len(list)+2) - 1
				want := api.ErrNone
				if i >= 0 && i < len(list) {
					want = api.ErrFull
					if len(list) < most {
						want = api.OK
						list = append(list, list[i])
						left[list[i]]++
					}
				}
				if e := b.Double(i); e != want {
					t.Fatalf("Double: %d, not %d", int(e), int(want))
				}
			case r.Intn(30) == 0:
				if n := b.Clear(); n != len(list) {
					t.Fatalf("Clear: %d", n)
				}
				list = nil
				clear(left)
			default:
				b = b.Clone()
			}
			if next%50 == 0 || most < 3 {
				has(t, "a bag beside a list", b, lost, list...)
			}
		}
		for _, x := range list {
			if y, ok := b.Take(0); !ok || x != y {
				t.Fatalf("%d, %v, not %d", y, ok, x)
			}
			left[x]--
		}
		for x, n := range left {
			if n != 0 {
				t.Errorf("%d is left %d times", x, n)
			}
		}
	}
}
