package memo

import (
	"iter"
	"math"
	"slices"
	"testing"

	"hansom/api"
)

// kept: a pair and its distance, as All tells them.
type kept struct {
	p api.Pair
	d int64
}

// pair: two nodes, written shortly.
func pair(from, to int32) api.Pair {
	return api.Pair{From: from, To: to}
}

// must: a memo of that room.
func must(t *testing.T, most int) *Memo {
	t.Helper()
	m, e := New(most)
	if m == nil || e != api.OK {
		t.Fatalf("P2.1: New(%d): %v, error %d; want a memo, OK", most, m, e)
	}
	return m
}

// told: all that a sequence tells, in its order.
func told(all iter.Seq2[api.Pair, int64]) []kept {
	var out []kept
	for p, d := range all {
		out = append(out, kept{p, d})
	}
	return out
}

// want: the memo tells these, by All, Len and Get.
func want(t *testing.T, what string, m *Memo, rows ...kept) {
	t.Helper()
	if got := told(m.All()); !slices.Equal(got, rows) {
		t.Errorf("P2.2: %s: All: %v; want %v", what, got, rows)
	}
	if got := m.Len(); got != len(rows) {
		t.Errorf("P2.2: %s: Len: %d; want %d", what, got, len(rows))
	}
	for _, r := range rows {
		if d, is := m.Get(r.p); d != r.d || !is {
			t.Errorf("P2.1: %s: Get(%v): %d, %v; want %d, true", what, r.p, d, is, r.d)
		}
	}
}

// gone: the memo has nothing for these pairs.
func gone(t *testing.T, what string, m *Memo, pairs ...api.Pair) {
	t.Helper()
	for _, p := range pairs {
		if d, is := m.Get(p); d != 0 || is {
			t.Errorf("P2.1: %s: Get(%v): %d, %v; want 0, false", what, p, d, is)
		}
	}
}

func TestNew(t *testing.T) {
	for _, most := range []int{1, 2, 1000, 65535, 65536} {
		want(t, "a new one", must(t, most))
	}
	for _, most := range []int{0, -1, 65537, 1 << 20, math.MinInt, math.MaxInt} {
		if m, e := New(most); m != nil || e != api.ErrArg {
			t.Errorf("P2.1: New(%d): %v, error %d; want nil, ErrArg", most, m, e)
		}
	}
}

func TestPutAndGet(t *testing.T) {
	m := must(t, 3)
	gone(t, "empty", m, pair(1, 2), pair(0, 0))
	for _, r := range []struct {
		p   api.Pair
		d   int64
		new bool
	}{
		{pair(1, 2), 5, true},
		{pair(1, 2), 6, false},
		{pair(2, 1), 7, true},
		{pair(1, 2), 0, false},
		{pair(2, 1), math.MinInt64, false},
		{pair(math.MinInt32, math.MaxInt32), math.MaxInt64, true},
		{pair(math.MinInt32, math.MaxInt32), api.Inf, false},
	} {
		if got := m.Put(r.p, r.d); got != r.new {
			t.Errorf("P2.1: Put(%v, %d): %v; want %v", r.p, r.d, got, r.new)
		}
		if d, is := m.Get(r.p); d != r.d || !is {
			t.Errorf("P2.1: Get(%v): %d, %v; want %d, true", r.p, d, is, r.d)
		}
	}
	want(t, "put", m, kept{pair(1, 2), 0}, kept{pair(2, 1), math.MinInt64}, kept{pair(math.MinInt32, math.MaxInt32), api.Inf})
	gone(t, "never put", m, pair(1, 1), pair(2, 2), pair(math.MaxInt32, math.MinInt32))
}

func TestMostOfOne(t *testing.T) {
	m := must(t, 1)
	if !m.Put(pair(1, 2), 5) || m.Put(pair(1, 2), 6) {
		t.Error("P2.1: Put tells wrongly whether there was none")
	}
	want(t, "put again", m, kept{pair(1, 2), 6})
	if !m.Put(pair(2, 1), 7) {
		t.Error("P2.1: Put of another pair: false; want true")
	}
	want(t, "another one", m, kept{pair(2, 1), 7})
	gone(t, "another one", m, pair(1, 2))
	if !m.Put(pair(1, 2), 8) {
		t.Error("P2.1: Put of a pair that went: false; want true")
	}
	want(t, "back again", m, kept{pair(1, 2), 8})
}

func TestMostOfAll(t *testing.T) {
	m := must(t, 65536)
	for i := range int32(65536) {
		m.Put(pair(i, -i), int64(i))
	}
	if m.Len() != 65536 {
		t.Fatalf("P2.1: Len: %d; want 65536", m.Len())
	}
	for i := range int32(10) {
		if !m.Put(pair(-7, i), 1) || m.Len() != 65536 {
			t.Fatalf("P2.1: Put into a full one: Len %d; want 65536", m.Len())
		}
		gone(t, "full", m, pair(i, -i))
		if d, is := m.Get(pair(i+1, -i-1)); d != int64(i+1) || !is {
			t.Fatalf("P2.1: Get of the eldest one that is left: %d, %v", d, is)
		}
	}
	if n := m.Drop(-7); n != 10 || m.Len() != 65526 {
		t.Errorf("P2.2: Drop(-7): %d, Len %d; want 10, 65526", n, m.Len())
	}
}

func TestPutAgainDoesNotBecomeNew(t *testing.T) {
	m := must(t, 3)
	m.Put(pair(1, 2), 1)
	m.Put(pair(3, 4), 2)
	m.Put(pair(5, 6), 3)
	m.Put(pair(1, 2), 9)
	want(t, "put again", m, kept{pair(1, 2), 9}, kept{pair(3, 4), 2}, kept{pair(5, 6), 3})
	m.Get(pair(1, 2))
	m.Put(pair(7, 8), 4)
	want(t, "one more", m, kept{pair(3, 4), 2}, kept{pair(5, 6), 3}, kept{pair(7, 8), 4})
	gone(t, "one more", m, pair(1, 2))
	m.Put(pair(1, 2), 5)
	want(t, "new again behind all", m, kept{pair(5, 6), 3}, kept{pair(7, 8), 4}, kept{pair(1, 2), 5})
	gone(t, "new again behind all", m, pair(3, 4))
}

func TestDrop(t *testing.T) {
	m := must(t, 8)
	for i, p := range []api.Pair{pair(1, 2), pair(3, 3), pair(2, 1), pair(4, 5), pair(3, 1), pair(0, 0)} {
		m.Put(p, int64(i))
	}
	for _, node := range []int32{9, -1, math.MinInt32, math.MaxInt32} {
		if n := m.Drop(node); n != 0 || m.Len() != 6 {
			t.Errorf("P2.2: Drop(%d): %d, Len %d; want 0, 6", node, n, m.Len())
		}
	}
	rows := []struct {
		node int32
		n    int
		left []kept
	}{
		{3, 2, []kept{{pair(1, 2), 0}, {pair(2, 1), 2}, {pair(4, 5), 3}, {pair(0, 0), 5}}},
		{3, 0, []kept{{pair(1, 2), 0}, {pair(2, 1), 2}, {pair(4, 5), 3}, {pair(0, 0), 5}}},
		{5, 1, []kept{{pair(1, 2), 0}, {pair(2, 1), 2}, {pair(0, 0), 5}}},
		{0, 1, []kept{{pair(1, 2), 0}, {pair(2, 1), 2}}},
		{1, 2, nil},
		{2, 0, nil},
	}
	for _, r := range rows {
		if n := m.Drop(r.node); n != r.n {
			t.Errorf("P2.2: Drop(%d): %d; want %d", r.node, n, r.n)
		}
		want(t, "dropped", m, r.left...)
	}
	gone(t, "dropped", m, pair(1, 2), pair(3, 3), pair(2, 1), pair(4, 5), pair(3, 1), pair(0, 0))
}

func TestDropOfOneNode(t *testing.T) {
	m := must(t, 2)
	m.Put(pair(4, 4), 0)
	m.Put(pair(4, 4), 1)
	if n := m.Drop(4); n != 1 {
		t.Errorf("P2.2: Drop of a pair whose ends are one node: %d; want 1", n)
	}
	want(t, "dropped", m)
	if n := m.Drop(4); n != 0 {
		t.Errorf("P2.2: Drop again: %d; want 0", n)
	}
}

func TestRoomBehindDrop(t *testing.T) {
	m := must(t, 3)
	m.Put(pair(1, 2), 1)
	m.Put(pair(3, 4), 2)
	m.Put(pair(5, 6), 3)
	m.Drop(4)
	if !m.Put(pair(7, 8), 4) {
		t.Error("P2.1: Put behind a Drop: false; want true")
	}
	want(t, "room is free again", m, kept{pair(1, 2), 1}, kept{pair(5, 6), 3}, kept{pair(7, 8), 4})
	m.Drop(1)
	m.Put(pair(1, 2), 5)
	want(t, "a dropped one is new again", m, kept{pair(5, 6), 3}, kept{pair(7, 8), 4}, kept{pair(1, 2), 5})
	m.Put(pair(3, 4), 6)
	want(t, "the eldest goes", m, kept{pair(7, 8), 4}, kept{pair(1, 2), 5}, kept{pair(3, 4), 6})
	if n := m.Drop(5); n != 0 {
		t.Errorf("P2.2: Drop of one that went: %d; want 0", n)
	}
}

func TestAllIsAsItWasAsked(t *testing.T) {
	m := must(t, 3)
	none := m.All()
	m.Put(pair(1, 2), 1)
	m.Put(pair(3, 4), 2)
	m.Put(pair(5, 6), 3)
	three := []kept{{pair(1, 2), 1}, {pair(3, 4), 2}, {pair(5, 6), 3}}
	all := m.All()
	m.Put(pair(3, 4), 9)
	m.Drop(1)
	for range 2 {
		if got := told(all); !slices.Equal(got, three) {
			t.Errorf("R6: All behind Put and Drop: %v; want %v", got, three)
		}
	}
	m.Put(pair(7, 8), 4)
	m.Put(pair(9, 9), 5)
	m.Drop(5)
	if got := told(all); !slices.Equal(got, three) {
		t.Errorf("R6: All behind more: %v; want %v", got, three)
	}
	if got := told(none); len(got) != 0 {
		t.Errorf("R6: All of an empty one, behind Put: %v; want nothing", got)
	}
	want(t, "now", m, kept{pair(7, 8), 4}, kept{pair(9, 9), 5})
}

func TestAllWhileOthersAreChanged(t *testing.T) {
	m := must(t, 4)
	for i := range int32(4) {
		m.Put(pair(i, i+10), int64(i))
	}
	var got []int64
	for p, d := range m.All() {
		got = append(got, d)
		m.Put(pair(p.From+20, 0), 7)
		m.Put(pair(p.From, p.To), 8)
		m.Drop(p.From + 1)
	}
	if !slices.Equal(got, []int64{0, 1, 2, 3}) {
		t.Errorf("R6: All while others are put and dropped: %v; want [0 1 2 3]", got)
	}
}

func TestAllStops(t *testing.T) {
	m := must(t, 4)
	for i := range int32(4) {
		m.Put(pair(i, i), int64(i))
	}
	all := m.All()
	for most := 1; most <= 4; most++ {
		n := 0
		all(func(p api.Pair, d int64) bool {
			if d != int64(n) || p != pair(int32(n), int32(n)) {
				t.Errorf("P2.2: All: %v, %d at place %d", p, d, n)
			}
			n++
			return n < most
		})
		if n != most {
			t.Errorf("R6: All went on to %d; want a stop at %d", n, most)
		}
	}
	if got := told(all); len(got) != 4 {
		t.Errorf("R6: All behind a stop: %d; want 4", len(got))
	}
}

func TestFork(t *testing.T) {
	m := must(t, 3)
	m.Put(pair(1, 2), 1)
	m.Put(pair(3, 3), 2)
	m.Put(pair(1, 2), 5)
	f := m.Fork()
	want(t, "a fork", f, kept{pair(1, 2), 5}, kept{pair(3, 3), 2})
	m.Put(pair(4, 5), 3)
	m.Put(pair(6, 7), 4)
	want(t, "the first, gone on", m, kept{pair(3, 3), 2}, kept{pair(4, 5), 3}, kept{pair(6, 7), 4})
	want(t, "the fork behind it", f, kept{pair(1, 2), 5}, kept{pair(3, 3), 2})
	if n := f.Drop(3); n != 1 {
		t.Errorf("P2.2: Drop of a fork: %d; want 1", n)
	}
	f.Put(pair(1, 2), 6)
	f.Put(pair(8, 8), 7)
	f.Put(pair(9, 9), 8)
	f.Put(pair(0, 9), 9)
	want(t, "the fork, gone on to its most", f, kept{pair(8, 8), 7}, kept{pair(9, 9), 8}, kept{pair(0, 9), 9})
	want(t, "the first behind it", m, kept{pair(3, 3), 2}, kept{pair(4, 5), 3}, kept{pair(6, 7), 4})
	if n := m.Drop(3); n != 1 {
		t.Errorf("P2.2: Drop behind the fork's: %d; want 1", n)
	}
}

func TestForkOfEmptyOne(t *testing.T) {
	f := must(t, 1).Fork()
	want(t, "a fork", f)
	f.Put(pair(1, 2), 1)
	f.Put(pair(2, 3), 2)
	want(t, "its room", f, kept{pair(2, 3), 2})
}

func TestNil(t *testing.T) {
	var m *Memo
	if m.Put(pair(1, 1), 1) {
		t.Error("P2.2: Put of nil: true; want false")
	}
	gone(t, "nil", m, pair(1, 1), pair(0, 0))
	if n := m.Drop(1); n != 0 {
		t.Errorf("P2.2: Drop of nil: %d; want 0", n)
	}
	if n := m.Len(); n != 0 {
		t.Errorf("P2.2: Len of nil: %d; want 0", n)
	}
	if f := m.Fork(); f != nil {
		t.Errorf("P2.2: Fork of nil: %v; want nil", f)
	}
	all := m.All()
	if all == nil {
		t.Fatal("R6: All of nil is nil")
	}
	if got := told(all); len(got) != 0 {
		t.Errorf("P2.2: All of nil: %v; want nothing", got)
	}
}

// TestOneThatNewHasNotMade: R1: whatever object it is, no call panics; without room it keeps nothing.
func TestOneThatNewHasNotMade(t *testing.T) {
	for _, m := range []*Memo{{}, new(Memo).Fork()} {
		if m.Put(pair(1, 1), 1) {
			t.Error("R1: Put: true; want false")
		}
		if n := m.Drop(1); n != 0 {
			t.Errorf("R1: Drop: %d; want 0", n)
		}
		want(t, "not made by New", m)
		gone(t, "not made by New", m, pair(1, 1))
	}
}

// plain: what the chapter says, word by word, as one list.
type plain struct {
	most int
	rows []kept
}

func (l *plain) at(p api.Pair) int {
	return slices.IndexFunc(l.rows, func(r kept) bool { return r.p == p })
}

func (l *plain) put(p api.Pair, d int64) bool {
	if i := l.at(p); i >= 0 {
		l.rows[i].d = d
		return false
	}
	l.rows = append(l.rows, kept{p, d})
	if len(l.rows) > l.most {
		l.rows = slices.Clone(l.rows[1:])
	}
	return true
}

func (l *plain) drop(node int32) int {
	n := len(l.rows)
	l.rows = slices.DeleteFunc(slices.Clone(l.rows), func(r kept) bool { return r.p.From == node || r.p.To == node })
	return n - len(l.rows)
}

// noise: a fixed row of words that look like chance, so that a test that fails once fails always.
func noise(n int) []uint64 {
	words := make([]uint64, n)
	x := uint64(0x9e3779b97f4a7c15)
	for i := range words {
		x ^= x << 13
		x ^= x >> 7
		x ^= x << 17
		words[i] = x
	}
	return words
}

func TestAgainstThePlainList(t *testing.T) {
	for _, most := range []int{1, 2, 3, 7, 20, 65536} {
		m, l := must(t, most), &plain{most: most}
		for step, w := range noise(4000) {
			a, b, d := int32(w%6), int32(w>>8%6), int64(w>>16%1000)
			var got, should any
			switch w >> 32 % 16 {
			case 0, 1:
				got, should = m.Drop(a), l.drop(a)
			case 2:
				m = m.Fork()
			default:
				got, should = m.Put(pair(a, b), d), l.put(pair(a, b), d)
			}
			if got != should {
				t.Fatalf("P2.1, P2.2: most %d, step %d: %v; want %v", most, step, got, should)
			}
			want(t, "against the list", m, l.rows...)
			gone(t, "against the list", m, l.missing(6)...)
			if t.Failed() {
				t.Fatalf("most %d, step %d", most, step)
			}
		}
	}
}

// missing: the pairs of so many nodes that the list does not have.
func (l *plain) missing(nodes int32) []api.Pair {
	var out []api.Pair
	for a := range nodes {
		for b := range nodes {
			if l.at(pair(a, b)) < 0 {
				out = append(out, pair(a, b))
			}
		}
	}
	return out
}

// TestKeepsNoMoreThanItNeeds: what went leaves nothing behind, neither a distance nor a number.
func TestKeepsNoMoreThanItNeeds(t *testing.T) {
	m := must(t, 4)
	for i := range int32(10000) {
		m.Put(pair(i, i+1), 1)
	}
	if len(m.dists) != 4 || len(m.counts) != 8 || cap(m.queue) > 64 {
		t.Errorf("P2.1: behind 10000 pairs: %d distances, %d numbers, room for %d", len(m.dists), len(m.counts), cap(m.queue))
	}
	m.Drop(9998)
	m.Drop(10000)
	m.Drop(9997)
	if len(m.dists) != 0 || len(m.counts) != 0 {
		t.Errorf("P2.2: behind Drop: %d distances, %d numbers; want none", len(m.dists), len(m.counts))
	}
}
