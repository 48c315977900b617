package heap

import (
	"math"
	"slices"
	"testing"

	"hansom/api"
)

// none: what Peek and Pop tell where there is nothing.
var none = api.Item{}

// dice: numbers that look like chance, the same ones each time.
type dice uint64

// roll: the next number, from 0 to n - 1.
func (d *dice) roll(n int) int {
	*d ^= *d << 13
	*d ^= *d >> 7
	*d ^= *d << 17
	return int(uint64(*d) >> 11 % uint64(n))
}

// must: an empty heap of that many things.
func must(t *testing.T, n int) *Heap {
	t.Helper()
	h, e := New(n)
	if h == nil || e != api.OK {
		t.Fatalf("P9.1: New(%d): %v, error %d; want a heap, OK", n, h, e)
	}
	return h
}

// filled: a heap of that many things, with these in.
func filled(t *testing.T, n int, items ...api.Item) *Heap {
	t.Helper()
	h := must(t, n)
	for _, x := range items {
		want(t, "P9.1: Push", h.Push(x.ID, x.Rank), api.OK)
	}
	return h
}

// want: a call has answered this.
func want(t *testing.T, what string, got, e api.Errno) {
	t.Helper()
	if got != e {
		t.Errorf("%s: error %d; want %d", what, got, e)
	}
}

// holds: of the things -1 to n, these are in, and no others: by Rank, Len and Peek, which change nothing.
func holds(t *testing.T, what string, h *Heap, n int, items ...api.Item) {
	t.Helper()
	slices.SortFunc(items, order)
	if got := h.Len(); got != len(items) {
		t.Errorf("P9.1: %s: Len: %d; want %d", what, got, len(items))
	}
	for id := -1; id <= n; id++ {
		at := slices.IndexFunc(items, func(x api.Item) bool { return x.ID == id })
		rank, is := h.Rank(id)
		if at < 0 && (rank != 0 || is) {
			t.Errorf("P9.1: %s: Rank(%d): %d, %v; want 0, false", what, id, rank, is)
		}
		if at >= 0 && (rank != items[at].Rank || !is) {
			t.Errorf("P9.1: %s: Rank(%d): %d, %v; want %d, true", what, id, rank, is, items[at].Rank)
		}
	}
	for range 2 {
		peeks(t, what, h, items)
	}
}

// peeks: Peek tells the first of these, which stand in their order.
func peeks(t *testing.T, what string, h *Heap, items []api.Item) {
	t.Helper()
	first := none
	if len(items) > 0 {
		first = items[0]
	}
	if x, is := h.Peek(); x != first || is != (len(items) > 0) {
		t.Errorf("P9.1: %s: Peek: %v, %v; want %v, %v", what, x, is, first, len(items) > 0)
	}
}

// pops: what is popped is this, in this order, and nothing more.
func pops(t *testing.T, what string, h *Heap, items ...api.Item) {
	t.Helper()
	for i := range items {
		peeks(t, what, h, items[i:])
		if x, is := h.Pop(); x != items[i] || !is {
			t.Fatalf("P9.1: %s: Pop number %d: %v, %v; want %v, true", what, i, x, is, items[i])
		}
		if rank, is := h.Rank(items[i].ID); rank != 0 || is {
			t.Errorf("P9.1: %s: Rank(%d), which was popped: %d, %v; want 0, false", what, items[i].ID, rank, is)
		}
	}
	for range 2 {
		if x, is := h.Pop(); x != none || is || h.Len() != 0 {
			t.Fatalf("P9.1: %s: Pop of an empty heap: %v, %v, Len %d; want zero, false, 0", what, x, is, h.Len())
		}
	}
}

// order: by ranks, then by numbers, as the chapter has it.
func order(a, b api.Item) int {
	switch {
	case a.Rank < b.Rank:
		return -1
	case a.Rank > b.Rank:
		return 1
	case a.ID < b.ID:
		return -1
	case a.ID > b.ID:
		return 1
	}
	return 0
}

func TestExample(t *testing.T) {
	h := filled(t, 3, api.Item{ID: 2, Rank: 5}, api.Item{ID: 0, Rank: 5})
	want(t, "P9.1: Lower(2, 4)", h.Lower(2, 4), api.OK)
	holds(t, "the example", h, 3, api.Item{ID: 2, Rank: 4}, api.Item{ID: 0, Rank: 5})
	pops(t, "the example", h, api.Item{ID: 2, Rank: 4}, api.Item{ID: 0, Rank: 5})
}

func TestNew(t *testing.T) {
	for _, n := range []int{math.MinInt, -api.MaxNodes, -1, 0, api.MaxNodes + 1, 2 * api.MaxNodes, math.MaxInt32, math.MaxInt} {
		if h, e := New(n); h != nil || e != api.ErrArg {
			t.Errorf("P9.1: New(%d): %v, error %d; want nil, %d", n, h, e, api.ErrArg)
		}
	}
	for _, n := range []int{1, 2, 3, 1000, api.MaxNodes - 1, api.MaxNodes} {
		h := must(t, n)
		peeks(t, "a new heap", h, nil)
		if x, is := h.Pop(); x != none || is || h.Len() != 0 {
			t.Errorf("P9.1: Pop of a new heap: %v, %v, Len %d", x, is, h.Len())
		}
		for _, id := range []int{math.MinInt, -1, n, n + 1, math.MaxInt} {
			want(t, "P9.1: Push of no thing", h.Push(id, 1), api.ErrArg)
			want(t, "P9.1: Lower of no thing", h.Lower(id, 1), api.ErrArg)
		}
		want(t, "P9.1: Push of the last thing", h.Push(n-1, 7), api.OK)
		if n > 1 {
			want(t, "P9.1: Push of the first thing", h.Push(0, 7), api.OK)
			pops(t, "both ends", h, api.Item{ID: 0, Rank: 7}, api.Item{ID: n - 1, Rank: 7})
		}
	}
	h := must(t, 5)
	holds(t, "a new heap", h, 5)
}

// TestPushErrors: a thing that is none is told as such, ahead of all that its rank could do; what is refused changes nothing.
func TestPushErrors(t *testing.T) {
	h := filled(t, 3, api.Item{ID: 0, Rank: 5}, api.Item{ID: 1, Rank: -2})
	for _, rank := range []int64{math.MinInt64, -2, 0, 5, 6, math.MaxInt64} {
		for _, id := range []int{math.MinInt, math.MinInt32, -2, -1, 3, 4, math.MaxInt32, math.MaxInt} {
			want(t, "P9.1: Push of no thing", h.Push(id, rank), api.ErrArg)
		}
		want(t, "P9.1: Push of what is in", h.Push(0, rank), api.ErrTwice)
		want(t, "P9.1: Push of what is in", h.Push(1, rank), api.ErrTwice)
	}
	holds(t, "refused pushes", h, 3, api.Item{ID: 0, Rank: 5}, api.Item{ID: 1, Rank: -2})
	pops(t, "refused pushes", h, api.Item{ID: 1, Rank: -2}, api.Item{ID: 0, Rank: 5})
}

// TestLowerErrors: what is none, what is not in, and what would rise; what is refused changes nothing.
func TestLowerErrors(t *testing.T) {
	h := filled(t, 4, api.Item{ID: 0, Rank: 5}, api.Item{ID: 1, Rank: -2}, api.Item{ID: 2, Rank: math.MinInt64})
	for _, rank := range []int64{math.MinInt64, -2, 0, 5, 6, math.MaxInt64} {
		for _, id := range []int{math.MinInt, -1, 4, 5, math.MaxInt} {
			want(t, "P9.1: Lower of no thing", h.Lower(id, rank), api.ErrArg)
		}
		want(t, "P9.1: Lower of what is not in", h.Lower(3, rank), api.ErrNone)
	}
	for _, rank := range []int64{6, 7, math.MaxInt64} {
		want(t, "P9.1: Lower to above", h.Lower(0, rank), api.ErrState)
	}
	for _, rank := range []int64{-1, 0, math.MaxInt64} {
		want(t, "P9.1: Lower to above", h.Lower(1, rank), api.ErrState)
	}
	for _, rank := range []int64{math.MinInt64 + 1, 0, math.MaxInt64} {
		want(t, "P9.1: Lower to above", h.Lower(2, rank), api.ErrState)
	}
	holds(t, "refused lowers", h, 4, api.Item{ID: 0, Rank: 5}, api.Item{ID: 1, Rank: -2}, api.Item{ID: 2, Rank: math.MinInt64})
	h.Drop(0)
	want(t, "P9.1: Lower of what was dropped", h.Lower(0, 1), api.ErrNone)
	h.Pop()
	want(t, "P9.1: Lower of what was popped", h.Lower(2, math.MinInt64), api.ErrNone)
	pops(t, "refused lowers", h, api.Item{ID: 1, Rank: -2})
}

// TestLower: to the same rank, by one, and by all that there is, from each place of the tree.
func TestLower(t *testing.T) {
	const n = 40
	for id := range n {
		for _, by := range []int64{0, 1, 2, 3, 17, n, 1000} {
			h, items := must(t, n), []api.Item(nil)
			for k := range n {
				x := api.Item{ID: k, Rank: int64(k*23%n) / 2}
				want(t, "P9.1: Push", h.Push(x.ID, x.Rank), api.OK)
				items = append(items, x)
			}
			items[id].Rank -= by
			want(t, "P9.1: Lower", h.Lower(id, items[id].Rank), api.OK)
			want(t, "P9.1: Lower to the rank that it has", h.Lower(id, items[id].Rank), api.OK)
			want(t, "P9.1: Lower to above", h.Lower(id, items[id].Rank+1), api.ErrState)
			holds(t, "lowered", h, n, items...)
			pops(t, "lowered", h, items...)
		}
	}
}

// TestRanks: the least and the greatest ranks are ranks as others are, and stand in their order.
func TestRanks(t *testing.T) {
	ranks := []int64{math.MaxInt64, 0, math.MinInt64, 1, math.MinInt64 + 1, -1, math.MaxInt64 - 1, api.Inf, -api.Inf, math.MaxInt64, math.MinInt64}
	h, items := must(t, len(ranks)), []api.Item(nil)
	for k, rank := range ranks {
		want(t, "P9.1: Push", h.Push(k, rank), api.OK)
		items = append(items, api.Item{ID: k, Rank: rank})
	}
	holds(t, "far ranks", h, len(ranks), items...)
	want(t, "P9.1: Lower from the greatest to the least", h.Lower(0, math.MinInt64), api.OK)
	pops(t, "far ranks", h,
		api.Item{ID: 0, Rank: math.MinInt64}, api.Item{ID: 2, Rank: math.MinInt64}, api.Item{ID: 10, Rank: math.MinInt64},
		api.Item{ID: 4, Rank: math.MinInt64 + 1}, api.Item{ID: 8, Rank: -api.Inf}, api.Item{ID: 5, Rank: -1},
		api.Item{ID: 1, Rank: 0}, api.Item{ID: 3, Rank: 1}, api.Item{ID: 7, Rank: api.Inf},
		api.Item{ID: 6, Rank: math.MaxInt64 - 1}, api.Item{ID: 9, Rank: math.MaxInt64})
}

// TestTies: things of one rank come by their numbers, in whatever order they came in, also those that were lowered to it.
func TestTies(t *testing.T) {
	const n = 31 // no number below it divides it, so that all steps come to all things
	for step := 1; step < n; step++ {
		h, items := must(t, n), []api.Item(nil)
		for k := range n {
			id := k * step % n
			want(t, "P9.1: Push", h.Push(id, int64(9+id%2)), api.OK)
			items = append(items, api.Item{ID: k, Rank: 9})
		}
		for id := 1; id < n; id += 2 {
			want(t, "P9.1: Lower", h.Lower(id, 9), api.OK)
		}
		pops(t, "one rank", h, items...)
	}
}

// TestDrop: whatever of the tree is dropped, the others stay, in their order; nothing is dropped twice.
func TestDrop(t *testing.T) {
	for n := 1; n <= 20; n++ {
		for turn := range 2 * n {
			for id := range n {
				h, items := must(t, n), []api.Item(nil)
				for k := range n {
					x := api.Item{ID: k, Rank: int64((k*7 + turn) % (n + 3))}
					want(t, "P9.1: Push", h.Push(x.ID, x.Rank), api.OK)
					if k != id {
						items = append(items, x)
					}
				}
				if !h.Drop(id) || h.Drop(id) {
					t.Errorf("P9.1: Drop(%d) of %d things: want true, then false", id, n)
				}
				holds(t, "dropped", h, n, items...)
				pops(t, "dropped", h, items...)
			}
		}
	}
}

// TestDropEdges: what is not in, or is no thing, is not dropped; what was dropped or popped may come again.
func TestDropEdges(t *testing.T) {
	h := filled(t, 3, api.Item{ID: 1, Rank: 4}, api.Item{ID: 2, Rank: 3})
	for _, id := range []int{math.MinInt, -1, 0, 3, 4, math.MaxInt} {
		if h.Drop(id) {
			t.Errorf("P9.1: Drop(%d), which is not in: true", id)
		}
	}
	holds(t, "nothing dropped", h, 3, api.Item{ID: 1, Rank: 4}, api.Item{ID: 2, Rank: 3})
	if !h.Drop(1) {
		t.Error("P9.1: Drop(1): false")
	}
	want(t, "P9.1: Push of what was dropped", h.Push(1, math.MaxInt64), api.OK)
	want(t, "P9.1: Push of what was dropped, again", h.Push(1, 0), api.ErrTwice)
	holds(t, "in again", h, 3, api.Item{ID: 1, Rank: math.MaxInt64}, api.Item{ID: 2, Rank: 3})
	if x, is := h.Pop(); x != (api.Item{ID: 2, Rank: 3}) || !is {
		t.Errorf("P9.1: Pop: %v, %v", x, is)
	}
	want(t, "P9.1: Push of what was popped", h.Push(2, math.MaxInt64), api.OK)
	want(t, "P9.1: Push of what was popped, again", h.Push(2, 0), api.ErrTwice)
	pops(t, "in again", h, api.Item{ID: 1, Rank: math.MaxInt64}, api.Item{ID: 2, Rank: math.MaxInt64})
	want(t, "P9.1: Push in an empty heap", h.Push(2, 1), api.OK)
	if !h.Drop(2) || h.Drop(2) {
		t.Error("P9.1: Drop of the only thing: want true, then false")
	}
	holds(t, "empty again", h, 3)
	pops(t, "empty again", h)
}

// TestNil: a nil heap, and one that New has not made.
func TestNil(t *testing.T) {
	var h *Heap
	for _, id := range []int{math.MinInt, -1, 0, 1, math.MaxInt} {
		want(t, "P9.1: Push, nil", h.Push(id, 1), api.ErrNil)
		want(t, "P9.1: Lower, nil", h.Lower(id, 1), api.ErrNil)
	}
	holds(t, "nil", h, 2)
	nothing(t, "nil", h)
	zero := &Heap{}
	for _, id := range []int{math.MinInt, -1, 0, 1, math.MaxInt} {
		want(t, "R1: Push, zero", zero.Push(id, 1), api.ErrArg)
		want(t, "R1: Lower, zero", zero.Lower(id, 1), api.ErrArg)
	}
	holds(t, "zero", zero, 2)
	nothing(t, "zero", zero)
}

// nothing: there is nothing to be popped or dropped.
func nothing(t *testing.T, what string, h *Heap) {
	t.Helper()
	if x, is := h.Pop(); x != none || is {
		t.Errorf("P9.1: %s: Pop: %v, %v; want zero, false", what, x, is)
	}
	for _, id := range []int{math.MinInt, -1, 0, 1, math.MaxInt} {
		if h.Drop(id) {
			t.Errorf("P9.1: %s: Drop(%d): true", what, id)
		}
	}
}

// TestApart: what is done with one heap is not to be seen in another one.
func TestApart(t *testing.T) {
	a := filled(t, 4, api.Item{ID: 0, Rank: 1}, api.Item{ID: 1, Rank: 2})
	b := filled(t, 4, api.Item{ID: 1, Rank: 1}, api.Item{ID: 3, Rank: 0})
	want(t, "R2: Lower", b.Lower(1, -1), api.OK)
	a.Drop(0)
	holds(t, "one", a, 4, api.Item{ID: 1, Rank: 2})
	holds(t, "the other", b, 4, api.Item{ID: 1, Rank: -1}, api.Item{ID: 3, Rank: 0})
}

// TestMany: many things, pushed in any order, come by rising ranks, each once.
func TestMany(t *testing.T) {
	const n = 50000
	h, items := must(t, n), make([]api.Item, n)
	d := dice(77)
	for k := range items {
		items[k] = api.Item{ID: k, Rank: int64(d.roll(n/4)) - n/8}
	}
	for k := range items {
		at := k + d.roll(n-k)
		items[k], items[at] = items[at], items[k]
		want(t, "P9.1: Push", h.Push(items[k].ID, items[k].Rank), api.OK)
	}
	for range n / 2 {
		at := d.roll(n)
		items[at].Rank -= int64(d.roll(n / 8))
		want(t, "P9.1: Lower", h.Lower(items[at].ID, items[at].Rank), api.OK)
	}
	for range n / 4 {
		at := d.roll(len(items))
		if !h.Drop(items[at].ID) {
			t.Fatalf("P9.1: Drop(%d): false", items[at].ID)
		}
		items = slices.Delete(items, at, at+1)
	}
	slices.SortFunc(items, order)
	pops(t, "many", h, items...)
}

// plain: what a heap is held against: all things that are in, in no order.
type plain struct {
	n     int
	items []api.Item
}

// at: where a thing is, or -1.
func (p *plain) at(id int) int {
	return slices.IndexFunc(p.items, func(x api.Item) bool { return x.ID == id })
}

// push: as Push.
func (p *plain) push(id int, rank int64) api.Errno {
	switch {
	case id < 0 || id >= p.n:
		return api.ErrArg
	case p.at(id) >= 0:
		return api.ErrTwice
	}
	p.items = append(p.items, api.Item{ID: id, Rank: rank})
	return api.OK
}

// lower: as Lower.
func (p *plain) lower(id int, rank int64) api.Errno {
	at := p.at(id)
	switch {
	case id < 0 || id >= p.n:
		return api.ErrArg
	case at < 0:
		return api.ErrNone
	case rank > p.items[at].Rank:
		return api.ErrState
	}
	p.items[at].Rank = rank
	return api.OK
}

// drop: as Drop.
func (p *plain) drop(id int) bool {
	at := p.at(id)
	if at < 0 {
		return false
	}
	p.items = slices.Delete(p.items, at, at+1)
	return true
}

// pop: as Pop.
func (p *plain) pop() (api.Item, bool) {
	if len(p.items) == 0 {
		return none, false
	}
	x := slices.MinFunc(p.items, order)
	return x, p.drop(x.ID)
}

// TestAnyCalls: long runs of any calls, of which some are refused, against a plain list.
func TestAnyCalls(t *testing.T) {
	for seed := 1; seed <= 60; seed++ {
		d := dice(seed)
		d.roll(1)
		n := 1 + d.roll(30)
		h, p := must(t, n), &plain{n: n}
		for range 500 {
			anyCall(t, &d, h, p)
			if t.Failed() {
				t.Fatalf("seed %d", seed)
			}
		}
		slices.SortFunc(p.items, order)
		pops(t, "any calls", h, p.items...)
	}
}

// anyCall: one call of both, whose answers are the same; and then they hold the same.
func anyCall(t *testing.T, d *dice, h *Heap, p *plain) {
	t.Helper()
	id, rank := d.roll(p.n+2)-1, int64(d.roll(2*p.n))-int64(p.n)
	switch d.roll(16) {
	case 0:
		x, is := h.Pop()
		y, was := p.pop()
		if x != y || is != was {
			t.Fatalf("P9.1: Pop: %v, %v; want %v, %v", x, is, y, was)
		}
	case 1, 2:
		if is, was := h.Drop(id), p.drop(id); is != was {
			t.Fatalf("P9.1: Drop(%d): %v; want %v", id, is, was)
		}
	case 3, 4, 5, 6, 7, 8:
		want(t, "P9.1: Lower", h.Lower(id, rank), p.lower(id, rank))
	default:
		want(t, "P9.1: Push", h.Push(id, rank), p.push(id, rank))
	}
	holds(t, "any calls", h, p.n, slices.Clone(p.items)...)
}
