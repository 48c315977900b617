package sweep

import (
	"cmp"
	"math"
	"slices"
	"testing"

	"hansom/api"
	"hansom/road"
)

// noNodes: numbers that are no nodes of a network of n.
func noNodes(n int) []int {
	return []int{math.MinInt, math.MinInt32, -n, -1, n, n + 1, math.MaxInt32, math.MaxInt32 + 1, 1 << 32, math.MaxInt}
}

// dice: numbers that look like chance, the same ones each time.
type dice uint64

// roll: the next number, from 0 to n - 1.
func (d *dice) roll(n int) int {
	*d ^= *d << 13
	*d ^= *d >> 7
	*d ^= *d << 17
	return int(uint64(*d) >> 11 % uint64(n))
}

// network: one of n nodes, with some of all arcs: about so many of a hundred, of weights from least on, so many of them.
func (d *dice) network(n, percent, least, kinds int) api.Net {
	net := api.Net{N: n}
	for v := range n {
		for u := range n {
			if u != v && d.roll(100) < percent {
				net.Arcs = append(net.Arcs, api.Arc{From: v, To: u, W: least + d.roll(kinds)})
			}
		}
	}
	return net
}

// arcs: a network of n nodes with these arcs, three numbers each.
func arcs(n int, l ...int) api.Net {
	net := api.Net{N: n}
	for k := 0; k+2 < len(l); k += 3 {
		net.Arcs = append(net.Arcs, api.Arc{From: l[k], To: l[k+1], W: l[k+2]})
	}
	return net
}

// bothWays: the network with each arc turned, too.
func bothWays(net api.Net) api.Net {
	for _, a := range slices.Clone(net.Arcs) {
		net.Arcs = append(net.Arcs, api.Arc{From: a.To, To: a.From, W: a.W})
	}
	return net
}

// turned: the network with each arc turned.
func turned(net api.Net) api.Net {
	net.Arcs = slices.Clone(net.Arcs)
	for k, a := range net.Arcs {
		net.Arcs[k].From, net.Arcs[k].To = a.To, a.From
	}
	return net
}

// must: the graph of a network.
func must(t testing.TB, net api.Net) *road.Graph {
	t.Helper()
	g, e := road.New(net)
	if e != api.OK {
		t.Fatalf("P10.2: New of N %d, %d arcs: error %d", net.N, len(net.Arcs), e)
	}
	return g
}

// plain: the distances between all nodes, a row for each From, by allowing one third node after the other; Inf where there is no way.
func plain(net api.Net) [][]int64 {
	rows := make([][]int64, net.N)
	for v := range rows {
		rows[v] = slices.Repeat([]int64{api.Inf}, net.N)
		rows[v][v] = 0
	}
	for _, a := range net.Arcs {
		rows[a.From][a.To] = int64(a.W)
	}
	for by := range net.N {
		for v := range net.N {
			for u := range net.N {
				if rows[v][by] < api.Inf && rows[by][u] < api.Inf {
					rows[v][u] = min(rows[v][u], rows[v][by]+rows[by][u])
				}
			}
		}
	}
	return rows
}

// wayBy: the least sum of all ways from v to u that go through no node twice and through none that is seen, each of them gone.
func wayBy(weights [][]int64, seen []bool, v, u int) int64 {
	if v == u {
		return 0
	}
	least := int64(api.Inf)
	seen[v] = true
	for by, w := range weights[v] {
		if w > 0 && !seen[by] {
			least = min(least, w+wayBy(weights, seen, by, u))
		}
	}
	seen[v] = false
	return least
}

// allWays: the same as plain, by going all ways; of few nodes only.
func allWays(net api.Net) [][]int64 {
	weights := make([][]int64, net.N)
	for v := range weights {
		weights[v] = make([]int64, net.N)
	}
	for _, a := range net.Arcs {
		weights[a.From][a.To] = int64(a.W)
	}
	rows := make([][]int64, net.N)
	for v := range rows {
		for u := range net.N {
			rows[v] = append(rows[v], wayBy(weights, make([]bool, net.N), v, u))
		}
	}
	return rows
}

// column: of each row the entry at u.
func column(rows [][]int64, u int) []int64 {
	var l []int64
	for _, row := range rows {
		l = append(l, row[u])
	}
	return l
}

// near: what Within should tell of a row: all that is near enough, sorted as the chapter says.
func near(row []int64, most int64) []api.Dist {
	var l []api.Dist
	for v, d := range row {
		if d <= most && d < api.Inf {
			l = append(l, api.Dist{Node: v, D: d})
		}
	}
	slices.SortFunc(l, func(a, b api.Dist) int { return cmp.Or(cmp.Compare(a.D, b.D), cmp.Compare(a.Node, b.Node)) })
	return l
}

// holds: all calls answer of a graph what the rows say; and it is the same graph behind them.
func holds(t *testing.T, what string, g *road.Graph, rows [][]int64) {
	t.Helper()
	before := g.Net()
	for v, row := range rows {
		if got := From(g, v); !slices.Equal(got, row) {
			t.Errorf("P11.1: %s: From(%d): %v; want %v", what, v, got, row)
		}
		if got, want := To(g, v), column(rows, v); !slices.Equal(got, want) {
			t.Errorf("P11.1: %s: To(%d): %v; want %v", what, v, got, want)
		}
		for u, d := range row {
			if got := dist(g, v, u); got != d {
				t.Errorf("P11.1: %s: Dist(%d, %d): %d; want %d", what, v, u, got, d)
			}
		}
		holdsWithin(t, what, g, v, row)
	}
	holdsNoNodes(t, what, g)
	if after := g.Net(); after.N != before.N || !slices.Equal(after.Arcs, before.Arcs) {
		t.Errorf("P11.1: %s: the graph was changed: %v; was %v", what, after, before)
	}
}

// dist: Dist of two nodes that a pair can hold.
func dist(g *road.Graph, v, u int) int64 {
	return Dist(g, api.Pair{From: int32(v), To: int32(u)})
}

// holdsWithin: Within answers of a node what its row says, up to each of its distances, one below, one above, and beyond.
func holdsWithin(t *testing.T, what string, g *road.Graph, v int, row []int64) {
	t.Helper()
	mosts := []int64{math.MinInt64, -api.Inf, -1, 0, 1, api.Inf - 1, api.Inf, api.Inf + 1, math.MaxInt64}
	for _, d := range row {
		mosts = append(mosts, d-1, d, d+1)
	}
	slices.Sort(mosts)
	for _, most := range slices.Compact(mosts) {
		if got, want := Within(g, v, most), near(row, most); !slices.Equal(got, want) {
			t.Errorf("P11.1: %s: Within(%d, %d): %v; want %v", what, v, most, got, want)
		}
	}
}

// holdsNoNodes: what is no node is Inf from each node and from itself, and has none near.
func holdsNoNodes(t *testing.T, what string, g *road.Graph) {
	t.Helper()
	n := g.Nodes()
	infs := slices.Repeat([]int64{api.Inf}, n)
	for _, v := range noNodes(n) {
		if from, to := From(g, v), To(g, v); !slices.Equal(from, infs) || !slices.Equal(to, infs) {
			t.Errorf("P11.1: %s: From, To of %d, which is no node: %v, %v; want %d times Inf", what, v, from, to, n)
		}
		for _, most := range []int64{-1, 0, 1, api.Inf, math.MaxInt64} {
			if l := Within(g, v, most); len(l) != 0 {
				t.Errorf("P11.1: %s: Within(%d, %d), which is no node: %v; want none", what, v, most, l)
			}
		}
		if v < math.MinInt32 || v > math.MaxInt32 {
			continue
		}
		for _, u := range append(noNodes(n)[1:7], 0, n-1, v) {
			if to, from := dist(g, v, u), dist(g, u, v); to != api.Inf || from != api.Inf {
				t.Errorf("P11.1: %s: Dist(%d, %d), of which one is no node: %d, and back %d; want Inf", what, v, u, to, from)
			}
		}
	}
}

func TestExample(t *testing.T) {
	g := must(t, arcs(3, 0, 1, 5, 1, 2, 5, 0, 2, 11))
	if got := From(g, 0); !slices.Equal(got, []int64{0, 5, 10}) {
		t.Errorf("P11.1: the example: From 0: %v; want 0 5 10", got)
	}
	holds(t, "the example", g, [][]int64{{0, 5, 10}, {api.Inf, 0, 5}, {api.Inf, api.Inf, 0}})
}

// TestFew: of few nodes all ways are gone, one by one, whatever the arcs.
func TestFew(t *testing.T) {
	d := dice(11)
	for n := 1; n <= 6; n++ {
		for _, percent := range []int{0, 20, 40, 70, 100} {
			for _, kinds := range []int{1, 2, 5, 1000} {
				net := d.network(n, percent, 1, kinds)
				rows := allWays(net)
				holds(t, "few nodes", must(t, net), rows)
				if other := plain(net); !slices.EqualFunc(rows, other, slices.Equal[[]int64]) {
					t.Fatalf("the two plain reckonings differ: %v, %v", rows, other)
				}
			}
		}
	}
}

// TestThreeNodes: each network of three nodes whose arcs are not there, or have one of three weights.
func TestThreeNodes(t *testing.T) {
	for kind := range 4 * 4 * 4 * 4 * 4 * 4 {
		net := api.Net{N: 3}
		for v := range 3 {
			for u := range 3 {
				if v == u {
					continue
				}
				if w := kind % 4; w > 0 {
					net.Arcs = append(net.Arcs, api.Arc{From: v, To: u, W: w})
				}
				kind /= 4
			}
		}
		rows, g := allWays(net), must(t, net)
		for v := range 3 {
			if got := From(g, v); !slices.Equal(got, rows[v]) {
				t.Fatalf("P11.1: %v: From(%d): %v; want %v", net.Arcs, v, got, rows[v])
			}
			if got := To(g, v); !slices.Equal(got, column(rows, v)) {
				t.Fatalf("P11.1: %v: To(%d): %v; want %v", net.Arcs, v, got, column(rows, v))
			}
			if got := Within(g, v, 3); !slices.Equal(got, near(rows[v], 3)) {
				t.Fatalf("P11.1: %v: Within(%d, 3): %v; want %v", net.Arcs, v, got, near(rows[v], 3))
			}
			for u := range 3 {
				if got := dist(g, v, u); got != rows[v][u] {
					t.Fatalf("P11.1: %v: Dist(%d, %d): %d; want %d", net.Arcs, v, u, got, rows[v][u])
				}
			}
		}
	}
}

// TestSizes: networks of many sizes, with few arcs and with all, of weights that are all the same, of few kinds, of any kind, and the greatest.
func TestSizes(t *testing.T) {
	d := dice(110)
	for n := 1; n <= 40; n += 1 + n/8 {
		for _, percent := range []int{3, 10, 30, 100} {
			for _, weights := range [][2]int{{1, 1}, {1, 3}, {1, 50}, {1, api.MaxWeight}, {api.MaxWeight - 2, 3}} {
				net := d.network(n, percent, weights[0], weights[1])
				holds(t, "any network", must(t, net), plain(net))
			}
		}
	}
}

// lines: n nodes in a line, with arcs of a weight from each to the next one.
func lines(n, w int) api.Net {
	net := api.Net{N: n}
	for v := range n - 1 {
		net.Arcs = append(net.Arcs, api.Arc{From: v, To: v + 1, W: w})
	}
	return net
}

// grid: rows and columns with arcs both ways between neighbours, of some kinds of weights.
func (d *dice) grid(rows, columns, kinds int) api.Net {
	net := api.Net{N: rows * columns}
	for v := range net.N {
		if v%columns < columns-1 {
			net.Arcs = append(net.Arcs, api.Arc{From: v, To: v + 1, W: 1 + d.roll(kinds)}, api.Arc{From: v + 1, To: v, W: 1 + d.roll(kinds)})
		}
		if v/columns < rows-1 {
			net.Arcs = append(net.Arcs, api.Arc{From: v, To: v + columns, W: 1 + d.roll(kinds)}, api.Arc{From: v + columns, To: v, W: 1 + d.roll(kinds)})
		}
	}
	return net
}

// TestShapes: lines, rings, stars, grids, trees, and parts that no way leads between.
func TestShapes(t *testing.T) {
	d := dice(1100)
	ring := lines(20, 7)
	ring.Arcs = append(ring.Arcs, api.Arc{From: 19, To: 0, W: 7})
	star, tree, parts := api.Net{N: 21}, api.Net{N: 31}, d.grid(4, 4, 3)
	for v := 1; v < star.N; v++ {
		star.Arcs = append(star.Arcs, api.Arc{From: 10, To: (10 + v) % star.N, W: 1 + v/4})
	}
	for v := 1; v < tree.N; v++ {
		tree.Arcs = append(tree.Arcs, api.Arc{From: (v - 1) / 2, To: v, W: 1 + d.roll(4)})
	}
	for _, a := range parts.Arcs {
		parts.Arcs = append(parts.Arcs, api.Arc{From: a.From + 16, To: a.To + 16, W: a.W})
	}
	parts.N = 33
	shapes := map[string]api.Net{"a line": lines(30, 3), "a ring": ring, "a star": star, "a tree": tree, "a grid": d.grid(6, 7, 4), "an even grid": d.grid(6, 6, 1), "parts": parts}
	for what, net := range shapes {
		holds(t, what, must(t, net), plain(net))
		holds(t, what+", turned", must(t, turned(net)), plain(turned(net)))
		if what == "a line" || what == "a star" || what == "a tree" {
			both := bothWays(net)
			holds(t, what+", both ways", must(t, both), plain(both))
		}
	}
}

// TestOneNode: there is nothing but the way to itself.
func TestOneNode(t *testing.T) {
	holds(t, "one node", must(t, api.Net{N: 1}), [][]int64{{0}})
}

// TestNoWay: nodes that no way leads to, or from, or only one way.
func TestNoWay(t *testing.T) {
	const inf = api.Inf
	holds(t, "no arcs", must(t, api.Net{N: 3}), [][]int64{{0, inf, inf}, {inf, 0, inf}, {inf, inf, 0}})
	holds(t, "one arc", must(t, arcs(3, 2, 1, 4)), [][]int64{{0, inf, inf}, {inf, 0, inf}, {inf, 4, 0}})
	holds(t, "to one node", must(t, arcs(3, 0, 1, 4, 2, 1, 6)), [][]int64{{0, 4, inf}, {inf, 0, inf}, {inf, 6, 0}})
	holds(t, "round, but for one node", must(t, arcs(4, 0, 1, 1, 1, 2, 2, 2, 0, 3)), [][]int64{{0, 1, 3, inf}, {5, 0, 2, inf}, {3, 4, 0, inf}, {inf, inf, inf, 0}})
}

// TestOtherWays: two ways of the same length, and ways of more arcs that are shorter than those of fewer.
func TestOtherWays(t *testing.T) {
	const inf = api.Inf
	holds(t, "two ways of one length", must(t, arcs(4, 0, 1, 2, 0, 2, 2, 1, 3, 3, 2, 3, 3)), [][]int64{{0, 2, 2, 5}, {inf, 0, inf, 3}, {inf, inf, 0, 3}, {inf, inf, inf, 0}})
	holds(t, "an arc and a way of one length", must(t, arcs(3, 0, 1, 2, 1, 2, 2, 0, 2, 4)), [][]int64{{0, 2, 4}, {inf, 0, 2}, {inf, inf, 0}})
	// From each node an arc leads to the last one, and it is shorter to go by way of the next.
	net := lines(12, 1)
	for v := range 10 {
		net.Arcs = append(net.Arcs, api.Arc{From: v, To: 11, W: 2*(11-v) + 1})
	}
	g := must(t, net)
	for v := range 12 {
		if d := dist(g, v, 11); d != int64(11-v) {
			t.Errorf("P11.1: more arcs that are shorter: Dist(%d, 11): %d; want %d", v, d, 11-v)
		}
	}
	holds(t, "more arcs that are shorter", g, plain(net))
}

// TestGreatestWeights: arcs of the greatest weight, one behind the other, beyond what 32 bits hold.
func TestGreatestWeights(t *testing.T) {
	const n = 5000
	net := lines(n, api.MaxWeight)
	g := must(t, net)
	from, to := From(g, 0), To(g, n-1)
	for v := range n {
		if want := int64(v) * api.MaxWeight; from[v] != want || to[n-1-v] != want {
			t.Fatalf("P11.1: %d arcs of the greatest weight: %d from the first one, %d to the last; want %d", v, from[v], to[n-1-v], want)
		}
	}
	const all = (n - 1) * api.MaxWeight
	if d := dist(g, 0, n-1); d != all {
		t.Errorf("P11.1: Dist from end to end: %d; want %d", d, all)
	}
	for k, most := range []int64{all, all - 1, api.MaxWeight * 4096, api.MaxWeight*4096 - 1, api.MaxWeight, api.MaxWeight - 1} {
		want := []int{n, n - 1, 4097, 4096, 2, 1}[k]
		if l := Within(g, 0, most); len(l) != want || l[want-1] != (api.Dist{Node: want - 1, D: from[want-1]}) {
			t.Errorf("P11.1: Within(0, %d): %d nodes; want %d", most, len(l), want)
		}
	}
}

// TestMostNodes: as many nodes as there may be; a line goes through a quarter of them, up and down, with the greatest weights.
func TestMostNodes(t *testing.T) {
	const n, long = api.MaxNodes, api.MaxNodes / 4
	// The v-th node of the line; as 5 and the number of nodes have nothing in common, each comes once.
	at := func(v int) int { return v * 5 % n }
	net, want := api.Net{N: n}, slices.Repeat([]int64{api.Inf}, n)
	for v := range long {
		net.Arcs = append(net.Arcs, api.Arc{From: at(v), To: at(v + 1), W: api.MaxWeight})
		want[at(v)] = int64(v) * api.MaxWeight
	}
	want[at(long)] = long * api.MaxWeight
	g := must(t, net)
	from := From(g, 0)
	if len(from) != n {
		t.Fatalf("P11.1: From: %d entries; want %d", len(from), n)
	}
	for v := range n {
		if from[v] != want[v] {
			t.Fatalf("P11.1: From(0) of %d: %d; want %d", v, from[v], want[v])
		}
	}
	if d := dist(g, 0, at(long)); d != long*api.MaxWeight {
		t.Errorf("P11.1: Dist from end to end: %d; want %d", d, long*api.MaxWeight)
	}
	if l := Within(g, at(long-1), api.Inf); !slices.Equal(l, []api.Dist{{Node: at(long - 1)}, {Node: at(long), D: api.MaxWeight}}) {
		t.Errorf("P11.1: Within of the last but one: %v", l)
	}
	if to := To(g, n-1); to[n-1] != 0 || to[0] != want[n-1] || to[n-2] != api.Inf {
		t.Errorf("P11.1: To(%d): %d from itself, %d from 0, %d from the one ahead; want 0, %d, Inf", n-1, to[n-1], to[0], to[n-2], want[n-1])
	}
}

// TestSameDistance: nodes of one distance come by their numbers, in whatever order they were seen.
func TestSameDistance(t *testing.T) {
	// From 4 two steps lead to each of 0 to 3 and 5 to 8; the greater numbers are seen first, and seen anew by shorter ways.
	net := arcs(13, 4, 9, 1, 4, 10, 2, 4, 11, 3, 4, 12, 4, 9, 8, 5, 9, 7, 5, 10, 6, 4, 10, 5, 4, 11, 3, 3, 11, 2, 3, 12, 1, 2, 12, 0, 2, 9, 0, 6, 9, 1, 7, 10, 8, 9)
	want := []api.Dist{{Node: 4}, {Node: 9, D: 1}, {Node: 10, D: 2}, {Node: 11, D: 3}, {Node: 12, D: 4}, {Node: 0, D: 6}, {Node: 1, D: 6}, {Node: 2, D: 6}, {Node: 3, D: 6}, {Node: 5, D: 6}, {Node: 6, D: 6}, {Node: 7, D: 6}, {Node: 8, D: 6}}
	g := must(t, net)
	if l := Within(g, 4, 6); !slices.Equal(l, want) {
		t.Errorf("P11.1: Within(4, 6): %v; want %v", l, want)
	}
	if l := Within(g, 4, 5); !slices.Equal(l, want[:5]) {
		t.Errorf("P11.1: Within(4, 5): %v; want %v", l, want[:5])
	}
	holds(t, "one distance", g, plain(net))
	// A star, all of whose ends are as far; its midst is among them.
	star := api.Net{N: 101}
	for v := range 101 {
		if v != 50 {
			star.Arcs = append(star.Arcs, api.Arc{From: 50, To: 100 - v, W: 9})
		}
	}
	l := Within(must(t, star), 50, 9)
	if len(l) != 101 || l[0] != (api.Dist{Node: 50}) || !slices.IsSortedFunc(l[1:], func(a, b api.Dist) int { return a.Node - b.Node }) {
		t.Errorf("P11.1: Within of a star: %v; want the midst, then all by their numbers", l)
	}
}

// TestNil: a nil graph, and one that New has not made, have no nodes.
func TestNil(t *testing.T) {
	for what, g := range map[string]*road.Graph{"nil": nil, "zero": {}} {
		for _, v := range append(noNodes(0), 0, 1) {
			if from, to := From(g, v), To(g, v); len(from) != 0 || len(to) != 0 {
				t.Errorf("P11.1: a %s graph: From, To of %d: %v, %v; want none", what, v, from, to)
			}
			if d := dist(g, v, v); d != api.Inf {
				t.Errorf("P11.1: a %s graph: Dist(%d, %d): %d; want Inf", what, v, v, d)
			}
			for _, most := range []int64{math.MinInt64, -1, 0, api.Inf, math.MaxInt64} {
				if l := Within(g, v, most); len(l) != 0 {
					t.Errorf("P11.1: a %s graph: Within(%d, %d): %v; want none", what, v, most, l)
				}
			}
		}
	}
}

// TestOwnMemory: what is answered is the caller's own: what they write into it, or into the room behind it, changes nothing.
func TestOwnMemory(t *testing.T) {
	d := dice(3)
	net := d.grid(5, 5, 3)
	g, rows := must(t, net), plain(net)
	for v := range net.N {
		from, to, l := From(g, v), To(g, v), Within(g, v, api.Inf)
		keepFrom, keepTo, keepWithin := From(g, v), To(g, v), Within(g, v, api.Inf)
		for _, spoilt := range [][]int64{from[:cap(from)], to[:cap(to)]} {
			for k := range spoilt {
				spoilt[k] = -7
			}
		}
		l = l[:cap(l)]
		for k := range l {
			l[k] = api.Dist{Node: -7, D: -7}
		}
		if !slices.Equal(keepFrom, rows[v]) || !slices.Equal(keepTo, column(rows, v)) || !slices.Equal(keepWithin, near(rows[v], api.Inf)) {
			t.Errorf("R3: node %d: what was answered before is changed", v)
		}
	}
	holds(t, "behind answers that were written into", g, rows)
}

// TestNoOtherGraph: what is asked of one graph plays no part in another one's answers.
func TestNoOtherGraph(t *testing.T) {
	a, b := arcs(3, 0, 1, 5, 1, 2, 5, 0, 2, 11), arcs(3, 0, 1, 1, 2, 1, 1)
	g, h := must(t, a), must(t, b)
	for range 2 {
		holds(t, "one of two", g, plain(a))
		holds(t, "the other of two", h, plain(b))
	}
}

// TestThirdNode: no way is shorter by way of a third node, and an arc is no shorter than the distance of its ends.
func TestThirdNode(t *testing.T) {
	d := dice(33)
	for range 20 {
		net := d.network(25, 10, 1, 30)
		g := must(t, net)
		for by := range net.N {
			to, from := To(g, by), From(g, by)
			for v := range net.N {
				row := From(g, v)
				for u := range net.N {
					if to[v] < api.Inf && from[u] < api.Inf && row[u] > to[v]+from[u] {
						t.Fatalf("P11.1: from %d to %d: %d, by way of %d: %d", v, u, row[u], by, to[v]+from[u])
					}
				}
			}
		}
		for _, a := range net.Arcs {
			if dist(g, a.From, a.To) > int64(a.W) {
				t.Fatalf("P11.1: the arc %v is shorter than the distance of its ends", a)
			}
		}
	}
}

// TestTwoSides: From and To are the same things from two sides: of one graph, and of the one whose arcs are turned.
func TestTwoSides(t *testing.T) {
	d := dice(34)
	for n := 2; n <= 60; n += 7 {
		net := d.network(n, 100/n+5, 1, 40)
		g, back := must(t, net), must(t, turned(net))
		for v := range n {
			from := From(g, v)
			if got := To(back, v); !slices.Equal(got, from) {
				t.Fatalf("P11.1: To(%d) of the turned graph: %v; From of the graph: %v", v, got, from)
			}
			for u := range n {
				if to := To(g, u); to[v] != from[u] || dist(g, v, u) != from[u] {
					t.Fatalf("P11.1: from %d to %d: From %d, To %d, Dist %d", v, u, from[u], to[v], dist(g, v, u))
				}
			}
		}
	}
}

// TestGreatGrid: of many nodes, by what must hold of distances: 0 at the node alone, no arc goes beyond its weight, and some arc to each node makes its distance up.
func TestGreatGrid(t *testing.T) {
	d := dice(35)
	g := must(t, d.grid(150, 150, 1000))
	for range 3 {
		v := d.roll(g.Nodes())
		from, to := From(g, v), To(g, v)
		madeUp, madeUpTo := make([]bool, g.Nodes()), make([]bool, g.Nodes())
		madeUp[v], madeUpTo[v] = from[v] == 0, to[v] == 0
		for _, a := range g.Net().Arcs {
			w := int64(a.W)
			if from[a.To] > from[a.From]+w || to[a.From] > to[a.To]+w {
				t.Fatalf("P11.1: the arc %v goes beyond its weight", a)
			}
			madeUp[a.To] = madeUp[a.To] || from[a.To] == from[a.From]+w
			madeUpTo[a.From] = madeUpTo[a.From] || to[a.From] == to[a.To]+w
		}
		if slices.Contains(madeUp, false) || slices.Contains(madeUpTo, false) {
			t.Errorf("P11.1: from and to %d: a distance that no arc makes up", v)
		}
		most := from[d.roll(g.Nodes())]
		if got := Within(g, v, most); !slices.Equal(got, near(from, most)) {
			t.Errorf("P11.1: Within(%d, %d) is another list than From's", v, most)
		}
		if u := d.roll(g.Nodes()); dist(g, v, u) != from[u] || dist(g, u, v) != to[u] {
			t.Errorf("P11.1: Dist of %d and %d is another one than From's or To's", v, u)
		}
	}
}

// TestLeavesEarly: of a great grid no more is gone through than is asked for: each node that a search goes on from costs at least one piece of memory, so few of these say that few nodes were.
func TestLeavesEarly(t *testing.T) {
	d := dice(36)
	g := must(t, d.grid(150, 150, 5))
	const midst = 75*150 + 75
	calls := map[string]func(){
		"Dist of neighbours":        func() { dist(g, midst, midst+1) },
		"Dist of a node and itself": func() { dist(g, midst, midst) },
		"Dist to no node":           func() { dist(g, midst, -1) },
		"Dist from no node":         func() { dist(g, -1, midst) },
		"Within of little":          func() { Within(g, midst, 9) },
		"Within of less than none":  func() { Within(g, midst, -1) },
	}
	for what, call := range calls {
		if pieces := testing.AllocsPerRun(1, call); pieces > 1000 {
			t.Errorf("Ways: %s: %v pieces of memory for %d nodes; want few", what, pieces, g.Nodes())
		}
	}
}
