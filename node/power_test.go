package node_test

import (
	"fmt"
	"maps"
	"math/rand"
	"slices"
	"testing"

	"keelson/api"
	"keelson/device"
	"keelson/entry"
	"keelson/image"
	"keelson/node"
)

// scene is a node, and a call in which its power goes.
type scene struct {
	made func(t *testing.T) (*node.Node, *device.Device)
	call func(n *node.Node) []api.Message
	puts []api.Entry // which may be held on the way, though nothing of them is behind it
}

func takes(m api.Message) func(*node.Node) []api.Message {
	return func(n *node.Node) []api.Message { return n.Take(m) }
}

// follower is one with entries of the term 1, of which so many are known to be committed.
func follower(entries, committed uint64) func(t *testing.T) (*node.Node, *device.Device) {
	return func(t *testing.T) (*node.Node, *device.Device) {
		n, d := made(t, three, 0)
		for _, e := range row(1, entries, 1, 4) {
			n.Take(appendOf(1, e, 0, 0))
		}
		n.Take(beatOf(1, 1, 1, committed, 0))
		return n, d
	}
}

// leading is one with entries that it went on with.
func leading(entries uint64) func(t *testing.T) (*node.Node, *device.Device) {
	return func(t *testing.T) (*node.Node, *device.Device) {
		n, d := leader(t, three, row(1, entries, 1, 4)...)
		for index := uint64(1); index < entries; index++ {
			n.Take(ackOf(2, 1, index))
		}
		return n, d
	}
}

func scenes(t *testing.T) map[string]scene {
	standing := func(t *testing.T) (*node.Node, *device.Device) {
		n, d := follower(5, 2)(t)
		n.Timer()
		return n, d
	}
	full := image.Image{Marks: api.Marks{Low: 9}, Blocks: text("s", 8)}
	newer := put(2, 3)
	return map[string]scene{
		"a timer":                       {follower(2, 1), (*node.Node).Timer, nil},
		"a save":                        {follower(5, 2), func(n *node.Node) []api.Message { n.Save(); return nil }, nil},
		"a vote":                        {follower(2, 1), takes(voteOf(2, 1, 9)), nil},
		"a vote in a greater term":      {follower(2, 1), takes(voteOf(2, 4, 9)), nil},
		"a greater term":                {follower(2, 1), takes(api.Message{From: 1, Term: 4}), nil},
		"an append":                     {follower(2, 1), takes(appendOf(1, put(4, 1), 1, 0)), nil},
		"an append in a greater term":   {follower(3, 1), takes(appendOf(1, newer, 1, 0)), nil},
		"an append that is committed":   {follower(3, 2), takes(appendOf(1, row(1, 4, 1, 4)[3], 4, 0)), row(1, 4, 1, 4)[3:]},
		"a beat":                        {follower(2, 0), takes(beatOf(1, 1, 1, 2, 0)), nil},
		"a beat behind which it saves":  {follower(6, 0), takes(beatOf(1, 1, 1, 6, 0)), nil},
		"a snap":                        {follower(6, 2), takes(snapOf(t, 1, 1, full)), nil},
		"a vote that wins":              {standing, takes(grantOf(1, 2, row(1, 7, 1, 4)...)), nil},
		"an ack":                        {leading(3), takes(ackOf(2, 1, 3)), nil},
		"an ack behind which it saves":  {leading(4), takes(ackOf(2, 1, 4)), nil},
		"a pulse":                       {leading(3), takes(pulseOf(2, 1, 1, 3, 0)), nil},
		"a pulse behind which it saves": {leading(4), takes(pulseOf(2, 1, 1, 4, 0)), nil},
		"a write":                       {leading(0), takes(writeOf(1, 1, 2, text("w", 3))), nil},
		"a write that is committed at once": {func(t *testing.T) (*node.Node, *device.Device) {
			n, d := leading(0)(t)
			n.Take(ackOf(1, 1, 1))
			n.Take(ackOf(2, 1, 1))
			return n, d
		}, takes(writeOf(1, 1, 2, text("w", 3))), nil},
	}
}

// lasting is what is left of a node behind a crash.
type lasting struct {
	vow   string
	term  uint64
	chunk string
	saved uint64
	held  map[uint64]string
}

func lasts(t *testing.T, d *device.Device, keep ...int) lasting {
	t.Helper()
	d = d.Clone()
	d.Crash(keep...)
	n := opened(t, d, three, 0)
	vote, voted := n.Vote()
	i, e := n.Image()
	l := lasting{vow: fmt.Sprint(n.Term(), vote, voted), term: n.Term(), chunk: fmt.Sprint(i, int(e)), saved: n.Low(), held: map[uint64]string{}}
	for _, e := range n.Entries() {
		l.held[e.Index] = fmt.Sprintf("%+v", e)
	}
	return l
}

// between checks that what is left is, part by part, what was ahead of a call, or what is behind it.
func between(t *testing.T, what string, got, was, is lasting, puts []api.Entry) {
	t.Helper()
	if got.vow != was.vow && got.vow != is.vow && got.vow != fmt.Sprint(is.term, 0, false) {
		t.Errorf("%s: %s, neither %s nor %s", what, got.vow, was.vow, is.vow)
	}
	if got.chunk != was.chunk && got.chunk != is.chunk {
		t.Errorf("%s: %s, neither %s nor %s", what, got.chunk, was.chunk, is.chunk)
	}
	for index := got.saved + 1; index <= got.saved+99; index++ {
		on := slices.ContainsFunc(puts, func(e api.Entry) bool { return e.Index == index && got.held[index] == fmt.Sprintf("%+v", e) })
		if x := got.held[index]; x != was.held[index] && x != is.held[index] && !on {
			t.Errorf("%s: the %d is %q, neither %q nor %q", what, index, x, was.held[index], is.held[index])
		}
	}
	for index := range got.held {
		if index <= got.saved || index > got.saved+99 {
			t.Errorf("%s: the %d is held", what, index)
		}
	}
}

func TestThePowerGoesInEachCall(t *testing.T) {
	r := rand.New(rand.NewSource(7))
	all := scenes(t)
	for _, what := range slices.Sorted(maps.Keys(all)) {
		s := all[what]
		n, d := s.made(t)
		was := lasts(t, d)
		want := s.call(n)
		after, fresh := lasts(t, d), fmt.Sprintf("%+v", n.Fresh())
		cut := 0
		for ; ; cut++ {
			n, d := s.made(t)
			d.Fuse(cut)
			got := s.call(n)
			if !n.Down() {
				if fmt.Sprintf("%+v", got) != fmt.Sprintf("%+v", want) {
					t.Errorf("%s: %v, not %v", what, got, want)
				}
				break
			}
			tells(t, fmt.Sprint(what, ", cut at ", cut), got)
			if f := fmt.Sprintf("%+v", n.Fresh()); f != "[]" && len(f) > len(fresh) {
				t.Errorf("%s, cut at %d: applied %s, not some of %s", what, cut, f, fresh)
			}
			if n.Role() == node.Leader && n.Term() == 2 {
				t.Errorf("%s, cut at %d: it leads, though not all is safe", what, cut)
			}
			stays(t, what, n, n.Timer)
			keeps := [][]int{nil, slices.Repeat([]int{64}, d.Loose())}
			for range 6 {
				var keep []int
				for range d.Loose() {
					keep = append(keep, []int{0, 64, r.Intn(65)}[r.Intn(3)])
				}
				keeps = append(keeps, keep)
			}
			for _, keep := range keeps {
				between(t, fmt.Sprint(what, ", cut at ", cut, ", ", keep), lasts(t, d, keep...), was, after, s.puts)
			}
		}
		if cut == 0 {
			t.Error(what, "changes nothing")
		}
	}
}

func TestFreshAlsoIfThePowerGoes(t *testing.T) {
	for cut, want := range [][]uint64{nil, {1}, {1, 2}, {1, 2, 3}, {1, 2, 3, 4}} {
		n, d := follower(4, 0)(t)
		d.Fuse(cut)
		tells(t, "the power goes", n.Take(beatOf(1, 1, 1, 4, 0)))
		freshly(t, "what was applied ahead of that", n, want...)
		tells(t, "it is gone", n.Take(beatOf(1, 1, 1, 4, 0)))
		freshly(t, "nothing in this call", n)
	}
}

// P27.4, P27.5

// oath is what a node has told, or promised: it must not go back on that.
type oath struct {
	term uint64
	vote int // and 1
	acks []api.Message
	held map[uint64]api.Entry // when it was asked last
	low  uint64
}

func (o *oath) keeps(t *testing.T, what string, n *node.Node, told []api.Message, again bool) {
	t.Helper()
	vote, voted := n.Vote()
	if !voted {
		vote = -1
	}
	if n.Term() < o.term || n.Term() == o.term && o.vote != 0 && vote+1 != o.vote {
		t.Fatalf("%s: term %d, vote %d, of %d, %d", what, n.Term(), vote, o.term, o.vote-1)
	}
	o.term, o.vote = n.Term(), vote+1
	for _, m := range told {
		if m.Kind == api.MsgAck {
			o.acks = append(o.acks, m)
		}
		if m.Kind == api.MsgGrant && m.Yes && (vote != m.To || m.Term != n.Term()) {
			t.Fatalf("%s: it granted what it didn't promise: %+v", what, m)
		}
		if m.Term != n.Term() {
			t.Fatalf("%s: %+v isn't of its term %d", what, m, n.Term())
		}
	}
	held := map[uint64]api.Entry{}
	for _, e := range n.Entries() {
		held[e.Index] = e
	}
	for _, m := range o.acks {
		if e, ok := held[m.Index]; m.Index > n.Low() && (!ok || e.Term < m.Term) {
			t.Fatalf("%s: it told of %d in the term %d, and holds %+v", what, m.Index, m.Term, e)
		}
	}
	for index, e := range o.held {
		if x, ok := held[index]; index > n.Low() && (!ok || x.Term < e.Term || x.Term == e.Term && !entry.Same(x, e)) {
			t.Fatalf("%s: it held %+v, and holds %+v", what, e, x)
		}
	}
	if n.Low() < o.low {
		t.Fatalf("%s: Low falls from %d to %d", what, o.low, n.Low())
	}
	o.held, o.low = held, n.Low()
	if again && n.Role() != node.Follower {
		t.Fatal(what, n.Role())
	}
}

// jolt lets some nodes, whose power goes now and then, tell one another this and that.
func jolt(t *testing.T, seed int64, count map[string]int) {
	r := rand.New(rand.NewSource(seed))
	c := api.Config{Nodes: 3, Behind: []int{1, 2, 3, 8}[r.Intn(4)], Blocks: 8}
	s := newStage(t, seed, c)
	oaths := []*oath{{}, {}, {}}
	for k := range 500 {
		i := r.Intn(3)
		d := s.devices[i]
		if r.Intn(12) == 0 {
			d.Fuse(r.Intn(12))
		}
		var told []api.Message
		what := fmt.Sprintf("seed %d, step %d", seed, k)
		switch x := r.Intn(20); {
		case x < 14 && len(s.way) > 0:
			at := r.Intn(min(len(s.way), 6))
			m := s.way[at]
			s.way = slices.Delete(s.way, at, at+1)
			if m.To < 3 {
				i = m.To
				told = s.nodes[i].Take(m)
			}
		case x < 15:
			told = s.nodes[i].Timer()
		case x < 19:
			client := uint64(1 + r.Intn(2))
			s.last[client]++
			told = s.nodes[i].Take(writeOf(client, s.last[client], uint32(r.Intn(8)), text("w", 1)))
		default:
			s.nodes[i].Save()
		}
		d = s.devices[i]
		oaths[i].keeps(t, what, s.nodes[i], told, false)
		s.way = append(s.way, told...)
		count["acks"] += len(oaths[i].acks)
		if s.nodes[i].Down() || r.Intn(60) == 0 {
			count["crashes"]++
			var keep []int
			for range d.Loose() {
				keep = append(keep, []int{0, 64, r.Intn(65)}[r.Intn(3)])
			}
			d.Crash(keep...)
			s.nodes[i] = opened(t, d, c, i)
			oaths[i].keeps(t, what+", opened", s.nodes[i], nil, true)
		}
	}
}

func TestPromisesAreKept(t *testing.T) {
	count := map[string]int{}
	for seed := range int64(120) {
		jolt(t, seed, count)
	}
	if count["crashes"] < 1000 || count["acks"] < 1000 {
		t.Error(count)
	}
}
