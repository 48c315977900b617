package path

import (
	"math"
	"slices"
	"testing"

	"hansom/api"
	"hansom/road"
	"hansom/sweep"
)

const inf = api.Inf

// noNodes: numbers that are no nodes of a network of n.
func noNodes(n int) []int {
	return []int{math.MinInt, math.MinInt32, -n, -1, n, n + 1, math.MaxInt32, math.MaxInt32 + 1, 1 << 32, math.MaxInt}
}

// dice: numbers that look like chance, the same ones each time.
type dice uint64

// roll: the next number, from 0 to n - 1.
func (d *dice) roll(n int) int {
	*d ^= *d << 13
	*d ^= *d >> 7
	*d ^= *d << 17
	return int(uint64(*d) >> 11 % uint64(n))
}

// network: one of n nodes, with some of all arcs: about so many of a hundred, of weights from least on, so many of them.
func (d *dice) network(n, percent, least, kinds int) api.Net {
	net := api.Net{N: n}
	for v := range n {
		for u := range n {
			if u != v && d.roll(100) < percent {
				net.Arcs = append(net.Arcs, api.Arc{From: v, To: u, W: least + d.roll(kinds)})
			}
		}
	}
	return net
}

// grid: rows and columns with arcs both ways between neighbours, of some kinds of weights.
func (d *dice) grid(rows, columns, kinds int) api.Net {
	net := api.Net{N: rows * columns}
	for v := range net.N {
		if v%columns < columns-1 {
			net.Arcs = append(net.Arcs, api.Arc{From: v, To: v + 1, W: 1 + d.roll(kinds)}, api.Arc{From: v + 1, To: v, W: 1 + d.roll(kinds)})
		}
		if v/columns < rows-1 {
			net.Arcs = append(net.Arcs, api.Arc{From: v, To: v + columns, W: 1 + d.roll(kinds)}, api.Arc{From: v + columns, To: v, W: 1 + d.roll(kinds)})
		}
	}
	return net
}

// arcs: a network of n nodes with these arcs, three numbers each.
func arcs(n int, l ...int) api.Net {
	net := api.Net{N: n}
	for k := 0; k+2 < len(l); k += 3 {
		net.Arcs = append(net.Arcs, api.Arc{From: l[k], To: l[k+1], W: l[k+2]})
	}
	return net
}

// lines: n nodes in a line, with arcs of a weight from each to the next one.
func lines(n, w int) api.Net {
	net := api.Net{N: n}
	for v := range n - 1 {
		net.Arcs = append(net.Arcs, api.Arc{From: v, To: v + 1, W: w})
	}
	return net
}

// example: the chapter's network.
func example() api.Net {
	return arcs(3, 0, 1, 5, 1, 2, 5, 0, 2, 11)
}

// must: the graph of a network.
func must(t testing.TB, net api.Net) *road.Graph {
	t.Helper()
	g, e := road.New(net)
	if e != api.OK {
		t.Fatalf("P10.2: New of N %d, %d arcs: error %d", net.N, len(net.Arcs), e)
	}
	return g
}

// noGraphs: graphs that have no nodes.
func noGraphs() map[string]*road.Graph {
	return map[string]*road.Graph{"nil": nil, "zero": {}}
}

// pair: the pair of two nodes that it can hold.
func pair(v, u int) api.Pair {
	return api.Pair{From: int32(v), To: int32(u)}
}

// table: the weights of a network, a row for each From; 0 where there is no arc.
func table(net api.Net) [][]int64 {
	rows := make([][]int64, net.N)
	for v := range rows {
		rows[v] = make([]int64, net.N)
	}
	for _, a := range net.Arcs {
		rows[a.From][a.To] = int64(a.W)
	}
	return rows
}

// plain: the distances between all nodes, a row for each From, by allowing one third node after the other; Inf where there is no way.
func plain(weights [][]int64) [][]int64 {
	rows := make([][]int64, len(weights))
	for v := range rows {
		rows[v] = slices.Clone(weights[v])
		for u, w := range rows[v] {
			if w == 0 && u != v {
				rows[v][u] = inf
			}
		}
	}
	for by := range rows {
		for v := range rows {
			for u := range rows {
				if rows[v][by] < inf && rows[by][u] < inf {
					rows[v][u] = min(rows[v][u], rows[v][by]+rows[by][u])
				}
			}
		}
	}
	return rows
}

// plainNext: where the way from v to u goes on, by looking at all nodes; -1, if it does not.
func plainNext(weights, rows [][]int64, v, u int) int {
	if v == u || rows[v][u] == inf {
		return -1
	}
	for x, w := range weights[v] {
		if w > 0 && rows[x][u] < inf && w+rows[x][u] == rows[v][u] {
			return x
		}
	}
	return -1
}

// plainWay: the way from v to u, and when one who left at 0 comes to each of its nodes; none, if there is none.
func plainWay(weights, rows [][]int64, v, u int) ([]int, []int64) {
	if rows[v][u] == inf {
		return nil, nil
	}
	way, when := []int{v}, []int64{0}
	for x := plainNext(weights, rows, v, u); x >= 0; x = plainNext(weights, rows, x, u) {
		way, when = append(way, x), append(when, rows[v][u]-rows[x][u])
	}
	return way, when
}

// plainSpot: where one who left at left, and goes such a way, can turn at now, as the chapter tells it.
func plainSpot(way []int, when []int64, left, now int64) api.Spot {
	if now <= left {
		return api.Spot{Node: way[0], At: left}
	}
	for k := 1; k < len(way); k++ {
		if left+when[k] >= now {
			return api.Spot{Node: way[k], At: left + when[k]}
		}
	}
	return api.Spot{Node: way[len(way)-1], At: left + when[len(way)-1]}
}

// sum: the arcs along a way, one by one; false, if one is not there, or nothing is.
func sum(weights [][]int64, way []int) (int64, bool) {
	if len(way) == 0 || way[0] < 0 || way[0] >= len(weights) {
		return 0, false
	}
	all := int64(0)
	for k := 1; k < len(way); k++ {
		if way[k] < 0 || way[k] >= len(weights) || weights[way[k-1]][way[k]] == 0 {
			return 0, false
		}
		all += weights[way[k-1]][way[k]]
	}
	return all, true
}

// holds: all calls answer of a network what a plain reckoning does; and its graph is the same behind them.
func holds(t *testing.T, what string, net api.Net) {
	t.Helper()
	g, weights := must(t, net), table(net)
	rows, before := plain(weights), g.Net()
	for u := range net.N {
		dist := sweep.To(g, u)
		for v := range net.N {
			want := plainNext(weights, rows, v, u)
			if next, is := Next(g, dist, v); is != (want >= 0) || next != max(want, 0) {
				t.Fatalf("P12.1: %s: Next of %d on the way to %d: %d, %v; want %d", what, v, u, next, is, want)
			}
			holdsWay(t, what, g, weights, rows, v, u)
		}
	}
	if after := g.Net(); after.N != before.N || !slices.Equal(after.Arcs, before.Arcs) {
		t.Fatalf("R3: %s: the graph was changed: %v; was %v", what, after, before)
	}
}

// holdsWay: Way, Check and Spot answer of two nodes what a plain reckoning does.
func holdsWay(t *testing.T, what string, g *road.Graph, weights, rows [][]int64, v, u int) {
	t.Helper()
	want, when := plainWay(weights, rows, v, u)
	way, is := Way(g, pair(v, u))
	if is != (len(want) > 0) || !slices.Equal(way, want) {
		t.Fatalf("P12.1: %s: Way from %d to %d: %v, %v; want %v", what, v, u, way, is, want)
	}
	if !is {
		holdsNoSpot(t, what, g, v, u)
		return
	}
	if d, is := Check(g, way); d != rows[v][u] || !is {
		t.Fatalf("P12.1: %s: Check of the way from %d to %d: %d, %v; want %d", what, v, u, d, is, rows[v][u])
	}
	const left = 1000
	for _, at := range when {
		for now := left + at - 1; now <= left+at+1; now++ {
			spot, is := Spot(g, pair(v, u), left, now)
			if want := plainSpot(want, when, left, now); spot != want || !is {
				t.Fatalf("P12.2: %s: Spot from %d to %d, left at %d, now %d: %v, %v; want %v", what, v, u, left, now, spot, is, want)
			}
		}
	}
}

// holdsNoSpot: there is no spot on a way that is not there, whatever the time.
func holdsNoSpot(t *testing.T, what string, g *road.Graph, v, u int) {
	t.Helper()
	for _, now := range []int64{0, 10, 11, 12, maxTime} {
		if spot, is := Spot(g, pair(v, u), 11, now); spot != (api.Spot{}) || is {
			t.Fatalf("P12.2: %s: Spot from %d to %d, where no way leads, at %d: %v, %v; want none", what, v, u, now, spot, is)
		}
	}
}

func TestExample(t *testing.T) {
	g := must(t, example())
	if way, is := Way(g, pair(0, 2)); !slices.Equal(way, []int{0, 1, 2}) || !is {
		t.Errorf("P12.1: the example: Way {0 2}: %v, %v; want 0 1 2", way, is)
	}
	for now, want := range map[int64]api.Spot{103: {Node: 1, At: 105}, 105: {Node: 1, At: 105}, 106: {Node: 2, At: 110}} {
		if spot, is := Spot(g, pair(0, 2), 100, now); spot != want || !is {
			t.Errorf("P12.2: the example: Spot at %d: %v, %v; want %v", now, spot, is, want)
		}
	}
	holds(t, "the example", example())
}

// TestSizes: networks of many sizes, with few arcs and with all, of weights that are all the same, of few kinds, of any kind, and the greatest.
func TestSizes(t *testing.T) {
	d := dice(12)
	for n := 1; n <= 24; n += 1 + n/8 {
		for _, percent := range []int{3, 10, 30, 100} {
			for _, weights := range [][2]int{{1, 1}, {1, 3}, {1, 50}, {1, api.MaxWeight}, {api.MaxWeight - 2, 3}} {
				holds(t, "any network", d.network(n, percent, weights[0], weights[1]))
			}
		}
	}
}

// TestGrids: grids have many ways of the same length.
func TestGrids(t *testing.T) {
	d := dice(120)
	for _, kinds := range []int{1, 2, 3} {
		holds(t, "a grid", d.grid(4, 6, kinds))
		holds(t, "a long grid", d.grid(2, 11, kinds))
	}
	holds(t, "a line", lines(25, 3))
	holds(t, "no arcs", api.Net{N: 3})
	holds(t, "one node", api.Net{N: 1})
}

// allWays: each way from the last node of one to u that goes through no node twice, told with its length.
func allWays(weights [][]int64, way []int, gone int64, u int, tell func(way []int, gone int64)) {
	v := way[len(way)-1]
	if v == u {
		tell(way, gone)
		return
	}
	for x, w := range weights[v] {
		if w > 0 && !slices.Contains(way, x) {
			allWays(weights, append(way, x), gone+w, u, tell)
		}
	}
}

// firstWay: of all ways from v to u the first one, of those that are shortest, held against each other node by node; and its length.
func firstWay(weights [][]int64, v, u int) ([]int, int64) {
	var first []int
	least := int64(inf)
	allWays(weights, []int{v}, 0, u, func(way []int, gone int64) {
		if gone < least || gone == least && slices.Compare(way, first) < 0 {
			first, least = slices.Clone(way), gone
		}
	})
	return first, least
}

// TestFew: of few nodes all ways are gone, one by one: the way is the first one of those that are shortest.
func TestFew(t *testing.T) {
	d := dice(121)
	for n := 1; n <= 6; n++ {
		for _, percent := range []int{20, 40, 70, 100} {
			for _, kinds := range []int{1, 2, 5} {
				net := d.network(n, percent, 1, kinds)
				g, weights := must(t, net), table(net)
				for v := range n {
					for u := range n {
						want, length := firstWay(weights, v, u)
						way, is := Way(g, pair(v, u))
						if !slices.Equal(way, want) || is != (len(want) > 0) {
							t.Fatalf("P12.1: %v: Way from %d to %d: %v, %v; want %v", net.Arcs, v, u, way, is, want)
						}
						if spot, is := Spot(g, pair(v, u), 7, maxTime); len(want) > 0 && (!is || spot != api.Spot{Node: u, At: 7 + length}) {
							t.Fatalf("P12.2: %v: Spot from %d to %d behind the last: %v, %v; want %d at %d", net.Arcs, v, u, spot, is, u, 7+length)
						}
					}
				}
			}
		}
	}
}

// TestNextEdges: where the way goes on by any distances, those as well that no network has.
func TestNextEdges(t *testing.T) {
	// 0 goes to 1, 2 and 3 by 5, 5 and 7; 4 has no arcs from it.
	g := must(t, arcs(5, 0, 1, 5, 0, 2, 5, 0, 3, 7, 1, 4, 9, 2, 4, 9, 3, 4, 7))
	rows := []struct {
		what string
		dist []int64
		v    int
		next int
		is   bool
	}{
		{"as it is", []int64{14, 9, 9, 7, 0}, 0, 1, true},
		{"the lesser one alone", []int64{14, 9, 8, 7, 0}, 0, 1, true},
		{"the greater one alone", []int64{14, 8, 9, 7, 0}, 0, 2, true},
		{"the greatest one alone", []int64{14, 8, 8, 7, 0}, 0, 3, true},
		{"the greatest two", []int64{14, 8, 9, 7, 0}, 0, 2, true},
		{"one that is too far plays no part", []int64{14, 10, 9, 7, 0}, 0, 2, true},
		{"to the end", []int64{14, 9, 9, 7, 0}, 1, 4, true},
		{"one entry too few", []int64{14, 9, 9, 7}, 0, 0, false},
		{"one entry too many", []int64{14, 9, 9, 7, 0, 0}, 0, 0, false},
		{"one entry too many, of the node that would be there", []int64{14, 9, 9, 7, 0, 5}, 5, 0, false},
		{"no entries", nil, 0, 0, false},
		{"no entries, but not nil", []int64{}, 0, 0, false},
		{"the node -1", []int64{14, 9, 9, 7, 0}, -1, 0, false},
		{"the number of nodes", []int64{14, 9, 9, 7, 0}, 5, 0, false},
		{"nothing makes it up", []int64{14, 8, 8, 8, 0}, 0, 0, false},
		{"nothing makes it up: one less", []int64{13, 9, 9, 7, 0}, 0, 0, false},
		{"nothing makes it up: one more", []int64{15, 9, 9, 7, 0}, 0, 0, false},
		{"no arcs", []int64{14, 9, 9, 7, 1}, 4, 0, false},
		{"0, and the node is the end", []int64{14, 9, 9, 7, 0}, 4, 0, false},
		{"0, made up by below 0", []int64{0, -5, -5, -7, 0}, 0, 0, false},
		{"below 0, made up by below 0", []int64{-1, -6, -6, -8, 0}, 0, 0, false},
		{"the least of all", []int64{math.MinInt64, math.MaxInt64 - 4, math.MaxInt64 - 4, math.MaxInt64 - 6, 0}, 0, 0, false},
		{"1, made up by below 0", []int64{1, -4, -4, -6, 0}, 0, 0, false},
		{"above 0, made up by -1", []int64{4, -1, -1, -3, 0}, 0, 0, false},
		{"made up by 0", []int64{5, 0, 0, 0, 0}, 0, 1, true},
		{"made up by 0 at the greatest one", []int64{7, 0, 0, 0, 0}, 0, 3, true},
		{"one that is below 0 plays no part", []int64{4, -1, -1, -3, 0}, 0, 0, false},
		{"one of two is below 0", []int64{6, -1, 1, -1, 0}, 0, 2, true},
		{"the least number that is above 0", []int64{1, 1, 1, 1, 1}, 0, 0, false},
		{"one below Inf", []int64{inf - 1, inf - 6, inf - 6, inf - 8, 0}, 0, 1, true},
		{"Inf", []int64{inf, inf - 5, inf - 5, inf - 7, 0}, 0, 0, false},
		{"one above Inf", []int64{inf + 1, inf - 4, inf - 4, inf - 6, 0}, 0, 0, false},
		{"above Inf, made up by Inf", []int64{inf + 5, inf, inf, inf, 0}, 0, 0, false},
		{"above Inf, made up by more", []int64{inf + 6, inf + 1, inf + 1, inf - 1, 0}, 0, 0, false},
		{"the greatest of all", []int64{math.MaxInt64, math.MaxInt64 - 5, math.MaxInt64 - 5, math.MaxInt64 - 7, 0}, 0, 0, false},
		{"Inf at the ends", []int64{14, inf, inf, inf, 0}, 0, 0, false},
		{"Inf at the lesser ends", []int64{14, inf, inf, 7, 0}, 0, 3, true},
		{"above Inf at the lesser ends", []int64{14, inf + 9, math.MaxInt64, 7, 0}, 0, 3, true},
		{"below 0 at the lesser ends", []int64{14, -9, math.MinInt64, 7, 0}, 0, 3, true},
		{"what would go round", []int64{4, math.MaxInt64, math.MinInt64, -3, 0}, 0, 0, false},
	}
	for _, r := range rows {
		dist := slices.Clone(r.dist)
		if next, is := Next(g, dist, r.v); next != r.next || is != r.is {
			t.Errorf("P12.1: Next: %s: %d, %v; want %d, %v", r.what, next, is, r.next, r.is)
		}
		if !slices.Equal(dist, r.dist) {
			t.Errorf("R3: Next: %s: the distances were changed: %v; were %v", r.what, dist, r.dist)
		}
	}
	for _, v := range noNodes(5) {
		if next, is := Next(g, []int64{14, 9, 9, 7, 0}, v); next != 0 || is {
			t.Errorf("P12.1: Next of %d, which is no node: %d, %v; want 0, false", v, next, is)
		}
	}
}

// TestNextByAnyDistances: distances of any kind, held against the chapter's words.
func TestNextByAnyDistances(t *testing.T) {
	d := dice(122)
	net := d.network(7, 60, 1, 3)
	g, weights := must(t, net), table(net)
	kinds := []int64{math.MinInt64, -2, -1, 0, 1, 2, 3, 4, inf - 2, inf - 1, inf, inf + 1, math.MaxInt64}
	for range 20000 {
		dist := make([]int64, 7)
		for v := range dist {
			dist[v] = kinds[d.roll(len(kinds))]
		}
		for v := range dist {
			want, found := 0, false
			for x, w := range weights[v] {
				if !found && w > 0 && dist[v] > 0 && dist[v] < inf && dist[x] >= 0 && dist[x] < inf && dist[x]+w == dist[v] {
					want, found = x, true
				}
			}
			if next, is := Next(g, dist, v); next != want || is != found {
				t.Fatalf("P12.1: Next of %d by %v: %d, %v; want %d, %v", v, dist, next, is, want, found)
			}
		}
	}
}

// TestWayEdges: from a node to itself, where no way leads, and what is no node.
func TestWayEdges(t *testing.T) {
	// 3 has no arcs; 2 none from it.
	g := must(t, arcs(4, 0, 1, 5, 1, 2, 5, 0, 2, 11))
	for v := range 4 {
		if way, is := Way(g, pair(v, v)); !slices.Equal(way, []int{v}) || !is {
			t.Errorf("P12.1: Way of %d to itself: %v, %v; want it alone", v, way, is)
		}
	}
	for _, p := range []api.Pair{{From: 2, To: 0}, {From: 1, To: 0}, {From: 2, To: 1}, {From: 0, To: 3}, {From: 3, To: 0}, {From: 3, To: 2}, {From: 2, To: 3}} {
		if way, is := Way(g, p); len(way) != 0 || is {
			t.Errorf("P12.1: Way %v, where none leads: %v, %v", p, way, is)
		}
	}
	for _, x := range []int32{math.MinInt32, -4, -1, 4, 5, math.MaxInt32} {
		for _, p := range []api.Pair{{From: x, To: 2}, {From: 0, To: x}, {From: x, To: x}, {From: x, To: -1}, {From: 4, To: x}} {
			if way, is := Way(g, p); len(way) != 0 || is {
				t.Errorf("P12.1: Way %v, of which one is no node: %v, %v", p, way, is)
			}
			for _, now := range []int64{0, 9, 10} {
				if spot, is := Spot(g, p, 9, now); spot != (api.Spot{}) || is {
					t.Errorf("P12.2: Spot %v at %d, of which one is no node: %v, %v", p, now, spot, is)
				}
			}
		}
	}
}

// TestTwoWays: of two ways of the same length the one counts that is the first to go on to a lesser number, not that of fewer arcs, nor that whose arcs stand first.
func TestTwoWays(t *testing.T) {
	rows := []struct {
		what string
		net  api.Net
		p    api.Pair
		want []int
	}{
		{"by 1 or by 2", arcs(4, 0, 2, 2, 2, 3, 2, 0, 1, 2, 1, 3, 2), pair(0, 3), []int{0, 1, 3}},
		{"by 1 or by 2, of other arcs", arcs(4, 0, 2, 1, 2, 3, 3, 0, 1, 3, 1, 3, 1), pair(0, 3), []int{0, 1, 3}},
		{"at once, by a greater number", arcs(4, 0, 3, 4, 0, 1, 2, 1, 3, 2), pair(0, 3), []int{0, 1, 3}},
		{"at once, by a lesser number", arcs(4, 3, 0, 4, 3, 1, 2, 1, 0, 2), pair(3, 0), []int{3, 0}},
		{"they part at the second node", arcs(5, 4, 3, 1, 3, 1, 2, 3, 2, 2, 1, 0, 2, 2, 0, 2), pair(4, 0), []int{4, 3, 1, 0}},
		{"the first one counts, not the last", arcs(6, 0, 1, 1, 1, 4, 1, 4, 5, 1, 0, 2, 1, 2, 3, 1, 3, 5, 1), pair(0, 5), []int{0, 1, 4, 5}},
		{"by the lesser number it is longer", arcs(4, 0, 1, 2, 1, 3, 3, 0, 2, 2, 2, 3, 2), pair(0, 3), []int{0, 2, 3}},
		{"the nearer one is not on the way", arcs(4, 0, 1, 1, 1, 3, 9, 0, 2, 4, 2, 3, 1), pair(0, 3), []int{0, 2, 3}},
	}
	for _, r := range rows {
		g := must(t, r.net)
		if way, is := Way(g, r.p); !slices.Equal(way, r.want) || !is {
			t.Errorf("P12.1: two ways: %s: %v, %v; want %v", r.what, way, is, r.want)
		}
		holds(t, r.what, r.net)
	}
}

// TestEachEnd: the way is as long as the distance, and from each of its nodes it goes on as the way from there does.
func TestEachEnd(t *testing.T) {
	d := dice(123)
	g := must(t, d.grid(30, 30, 3))
	for range 12 {
		v, u := d.roll(g.Nodes()), d.roll(g.Nodes())
		way, is := Way(g, pair(v, u))
		if !is || way[0] != v || way[len(way)-1] != u {
			t.Fatalf("P12.1: Way from %d to %d: %v, %v", v, u, way, is)
		}
		if length, is := Check(g, way); length != sweep.Dist(g, pair(v, u)) || !is {
			t.Errorf("P12.1: the way from %d to %d is %d long, %v; the distance %d", v, u, length, is, sweep.Dist(g, pair(v, u)))
		}
		for k := 0; k < len(way); k += 1 + d.roll(5) {
			if end, is := Way(g, pair(way[k], u)); !slices.Equal(end, way[k:]) || !is {
				t.Errorf("P12.1: Way from %d to %d: %v, %v; want the end of the way from %d: %v", way[k], u, end, is, v, way[k:])
			}
		}
	}
}

// TestCheckEdges: what is a way, and what is none.
func TestCheckEdges(t *testing.T) {
	g := must(t, arcs(5, 0, 1, 5, 1, 2, 6, 2, 0, 7, 0, 2, 18, 2, 3, 1))
	rows := []struct {
		what string
		way  []int
		d    int64
		is   bool
	}{
		{"no node", nil, 0, false},
		{"no node, but not nil", []int{}, 0, false},
		{"the first one", []int{0}, 0, true},
		{"the last one, without arcs", []int{4}, 0, true},
		{"an arc", []int{0, 1}, 5, true},
		{"an arc that is not the shortest way", []int{0, 2}, 18, true},
		{"two arcs", []int{0, 1, 2}, 11, true},
		{"round, and on", []int{0, 1, 2, 0, 1, 2, 3}, 30, true},
		{"an arc the other way only", []int{1, 0}, 0, false},
		{"an arc both ways", []int{0, 2, 0, 2}, 43, true},
		{"no arc", []int{0, 3}, 0, false},
		{"no arc at the end", []int{0, 1, 2, 3, 4}, 0, false},
		{"no arc at the end, back", []int{0, 1, 2, 1}, 0, false},
		{"no arc at the beginning", []int{4, 2, 3}, 0, false},
		{"no arc in the midst", []int{0, 1, 3, 2, 0}, 0, false},
		{"no arc in the midst, all else is there", []int{0, 1, 0, 1, 2}, 0, false},
		{"the same node twice", []int{0, 0}, 0, false},
		{"the same node twice, without arcs", []int{4, 4}, 0, false},
		{"the same node twice, at the end", []int{0, 1, 2, 2}, 0, false},
		{"the same node twice, in the midst", []int{0, 1, 1, 2}, 0, false},
		{"two who are no nodes", []int{-1, -1}, 0, false},
	}
	for _, x := range noNodes(5) {
		for _, way := range [][]int{{x}, {x, 0}, {x, 1}, {0, x}, {2, 3, x}, {0, x, 1}, {x, x}} {
			rows = append(rows, struct {
				what string
				way  []int
				d    int64
				is   bool
			}{"one that is no node", way, 0, false})
		}
	}
	// Nodes that a pair could hold, if numbers went round, are none.
	for _, way := range [][]int{{1 << 32, 1}, {0, 1<<32 + 1}, {-1 << 32, 1}, {0, 1 - 1<<32}, {1 << 32}} {
		rows = append(rows, struct {
			what string
			way  []int
			d    int64
			is   bool
		}{"one that is a node only if it goes round", way, 0, false})
	}
	for _, r := range rows {
		way := slices.Clone(r.way)
		if d, is := Check(g, way); d != r.d || is != r.is {
			t.Errorf("P12.1: Check: %s: %v: %d, %v; want %d, %v", r.what, r.way, d, is, r.d, r.is)
		}
		if !slices.Equal(way, r.way) {
			t.Errorf("R3: Check: %s: the way was changed: %v; was %v", r.what, way, r.way)
		}
	}
}

// TestCheckAny: any nodes, held against the arcs one by one.
func TestCheckAny(t *testing.T) {
	d := dice(124)
	for _, percent := range []int{30, 90, 100} {
		net := d.network(6, percent, 1, api.MaxWeight)
		g, weights := must(t, net), table(net)
		for range 5000 {
			way := make([]int, d.roll(6))
			for k := range way {
				way[k] = d.roll(8*7)/7 - 1
			}
			want, right := sum(weights, way)
			if got, is := Check(g, way); got != want || is != right {
				t.Fatalf("P12.1: Check of %v: %d, %v; want %d, %v", way, got, is, want, right)
			}
		}
	}
}

// TestGreatestWeights: arcs of the greatest weight, one behind the other, beyond what 32 bits hold.
func TestGreatestWeights(t *testing.T) {
	const n, w = 5000, api.MaxWeight
	g := must(t, lines(n, w))
	way, is := Way(g, pair(0, n-1))
	if !is || len(way) != n {
		t.Fatalf("P12.1: Way from end to end: %d nodes, %v; want %d", len(way), is, n)
	}
	for v := range way {
		if way[v] != v {
			t.Fatalf("P12.1: Way from end to end: %d is the %d-th", way[v], v)
		}
	}
	if d, is := Check(g, way); d != (n-1)*w || !is {
		t.Errorf("P12.1: Check from end to end: %d, %v; want %d", d, is, (n-1)*w)
	}
	for _, k := range []int64{0, 1, 2047, 2048, 4095, 4096, 4097, n - 2, n - 1} {
		for _, left := range []int64{0, 3, maxTime - k*w - 1} {
			now := left + k*w
			if spot, is := Spot(g, pair(0, n-1), left, now); !is || spot != (api.Spot{Node: int(k), At: now}) {
				t.Errorf("P12.2: Spot, left at %d, at %d: %v, %v; want %d then", left, now, spot, is, k)
			}
			want := min(k+1, n-1)
			if spot, is := Spot(g, pair(0, n-1), left, now+1); !is || spot != (api.Spot{Node: int(want), At: left + want*w}) {
				t.Errorf("P12.2: Spot, left at %d, at %d: %v, %v; want %d", left, now+1, spot, is, want)
			}
		}
	}
}

// TestMostNodes: as many nodes as there may be; a line goes through a quarter of them, up and down, with the greatest weights.
func TestMostNodes(t *testing.T) {
	const n, long = api.MaxNodes, api.MaxNodes / 4
	// The v-th node of the line; as 5 and the number of nodes have nothing in common, each comes once.
	at := func(v int) int { return v * 5 % n }
	net := api.Net{N: n}
	for v := range long {
		net.Arcs = append(net.Arcs, api.Arc{From: at(v), To: at(v + 1), W: api.MaxWeight})
	}
	g := must(t, net)
	way, is := Way(g, pair(at(0), at(long)))
	if !is || len(way) != long+1 {
		t.Fatalf("P12.1: Way from end to end: %d nodes, %v; want %d", len(way), is, long+1)
	}
	for k, v := range way {
		if v != at(k) {
			t.Fatalf("P12.1: Way from end to end: the %d-th: %d; want %d", k, v, at(k))
		}
	}
	if d, is := Check(g, way); d != long*api.MaxWeight || !is {
		t.Errorf("P12.1: Check from end to end: %d, %v; want %d", d, is, long*api.MaxWeight)
	}
	// What is come to last is so behind the latest time at which one may turn.
	if spot, is := Spot(g, pair(at(0), at(long)), maxTime, maxTime); !is || spot != (api.Spot{Node: at(0), At: maxTime}) {
		t.Errorf("P12.2: Spot at the latest time: %v, %v", spot, is)
	}
	const half = long / 2
	if spot, is := Spot(g, pair(at(0), at(long)), maxTime-half*api.MaxWeight+1, maxTime); !is || spot != (api.Spot{Node: at(half), At: maxTime + 1}) {
		t.Errorf("P12.2: Spot behind the latest time: %v, %v; want %d one behind it", spot, is, at(half))
	}
}

// TestSpotEdges: each time at, one ahead of and one behind all that is come to, and the first and last times that may be.
func TestSpotEdges(t *testing.T) {
	g := must(t, arcs(5, 0, 1, 5, 1, 2, 6, 2, 3, 7, 4, 3, 1))
	const last = 1 << 41
	rows := []struct {
		what      string
		p         api.Pair
		left, now int64
		want      api.Spot
		is        bool
	}{
		{"long ahead of the beginning", pair(0, 3), 100, 0, api.Spot{Node: 0, At: 100}, true},
		{"below left", pair(0, 3), 100, 99, api.Spot{Node: 0, At: 100}, true},
		{"at left", pair(0, 3), 100, 100, api.Spot{Node: 0, At: 100}, true},
		{"one above", pair(0, 3), 100, 101, api.Spot{Node: 1, At: 105}, true},
		{"one ahead of the first", pair(0, 3), 100, 104, api.Spot{Node: 1, At: 105}, true},
		{"just at the first", pair(0, 3), 100, 105, api.Spot{Node: 1, At: 105}, true},
		{"one behind the first", pair(0, 3), 100, 106, api.Spot{Node: 2, At: 111}, true},
		{"one ahead of the second", pair(0, 3), 100, 110, api.Spot{Node: 2, At: 111}, true},
		{"just at the second", pair(0, 3), 100, 111, api.Spot{Node: 2, At: 111}, true},
		{"one behind the second", pair(0, 3), 100, 112, api.Spot{Node: 3, At: 118}, true},
		{"one ahead of the last", pair(0, 3), 100, 117, api.Spot{Node: 3, At: 118}, true},
		{"just at the last", pair(0, 3), 100, 118, api.Spot{Node: 3, At: 118}, true},
		{"one behind the last", pair(0, 3), 100, 119, api.Spot{Node: 3, At: 118}, true},
		{"long behind the last", pair(0, 3), 100, last, api.Spot{Node: 3, At: 118}, true},
		{"From and To the same, ahead", pair(1, 1), 100, 99, api.Spot{Node: 1, At: 100}, true},
		{"From and To the same, at left", pair(1, 1), 100, 100, api.Spot{Node: 1, At: 100}, true},
		{"From and To the same, behind", pair(1, 1), 100, 101, api.Spot{Node: 1, At: 100}, true},
		{"From and To the same, without arcs from it", pair(3, 3), 100, 101, api.Spot{Node: 3, At: 100}, true},
		{"left and now 0", pair(0, 3), 0, 0, api.Spot{Node: 0, At: 0}, true},
		{"left 0", pair(0, 3), 0, 1, api.Spot{Node: 1, At: 5}, true},
		{"left 0, now the last time", pair(0, 3), 0, last, api.Spot{Node: 3, At: 18}, true},
		{"left the last time", pair(0, 3), last, 0, api.Spot{Node: 0, At: last}, true},
		{"left and now the last time", pair(0, 3), last, last, api.Spot{Node: 0, At: last}, true},
		{"left one ahead of the last time, and now", pair(0, 3), last - 1, last, api.Spot{Node: 1, At: last + 4}, true},
		{"left -1", pair(0, 3), -1, 0, api.Spot{}, false},
		{"now -1", pair(0, 3), 0, -1, api.Spot{}, false},
		{"left and now -1", pair(0, 3), -1, -1, api.Spot{}, false},
		{"left one above the last time", pair(0, 3), last + 1, 0, api.Spot{}, false},
		{"left one above the last time, now it", pair(0, 3), last + 1, last, api.Spot{}, false},
		{"now one above the last time", pair(0, 3), 0, last + 1, api.Spot{}, false},
		{"now one above the last time, left it", pair(0, 3), last, last + 1, api.Spot{}, false},
		{"left the least of all", pair(0, 3), math.MinInt64, 0, api.Spot{}, false},
		{"left the greatest of all", pair(0, 3), math.MaxInt64, 0, api.Spot{}, false},
		{"now the least of all", pair(0, 3), 0, math.MinInt64, api.Spot{}, false},
		{"now the greatest of all", pair(0, 3), 0, math.MaxInt64, api.Spot{}, false},
		{"From and To the same, now -1", pair(1, 1), 0, -1, api.Spot{}, false},
		{"From and To the same, left one above the last time", pair(1, 1), last + 1, 0, api.Spot{}, false},
		{"back, where no way leads", pair(3, 0), 100, 103, api.Spot{}, false},
		{"back, where no way leads, at left", pair(3, 0), 100, 100, api.Spot{}, false},
		{"where no way leads, ahead of left", pair(0, 4), 100, 0, api.Spot{}, false},
	}
	for _, r := range rows {
		if spot, is := Spot(g, r.p, r.left, r.now); spot != r.want || is != r.is {
			t.Errorf("P12.2: Spot: %s: %v, %v; want %v, %v", r.what, spot, is, r.want, r.is)
		}
	}
}

// TestSpotsOfTheWay: of two ways of the same length the spots lie on the one that is the way.
func TestSpotsOfTheWay(t *testing.T) {
	g := must(t, arcs(4, 0, 2, 2, 2, 3, 6, 0, 1, 5, 1, 3, 3))
	for now, want := range map[int64]api.Spot{1: {Node: 1, At: 5}, 2: {Node: 1, At: 5}, 5: {Node: 1, At: 5}, 6: {Node: 3, At: 8}} {
		if spot, is := Spot(g, pair(0, 3), 0, now); spot != want || !is {
			t.Errorf("P12.2: Spot at %d: %v, %v; want %v", now, spot, is, want)
		}
	}
}

// TestNoGraph: of a nil graph, and of one that New has not made, there is nothing.
func TestNoGraph(t *testing.T) {
	for what, g := range noGraphs() {
		for _, v := range append(noNodes(0), 0, 1) {
			for _, dist := range [][]int64{nil, {}, {0}, {5}, {5, 0}} {
				if next, is := Next(g, dist, v); next != 0 || is {
					t.Errorf("P12.1: a %s graph: Next of %d by %v: %d, %v; want 0, false", what, v, dist, next, is)
				}
			}
			for _, way := range [][]int{nil, {v}, {v, 0}, {0, v}} {
				if d, is := Check(g, way); d != 0 || is {
					t.Errorf("P12.1: a %s graph: Check of %v: %d, %v; want 0, false", what, way, d, is)
				}
			}
			for _, p := range []api.Pair{pair(v, v), pair(v, 0), pair(0, v)} {
				if way, is := Way(g, p); len(way) != 0 || is {
					t.Errorf("P12.1: a %s graph: Way %v: %v, %v; want none", what, p, way, is)
				}
				if spot, is := Spot(g, p, 0, 0); spot != (api.Spot{}) || is {
					t.Errorf("P12.2: a %s graph: Spot %v: %v, %v; want none", what, p, spot, is)
				}
			}
		}
	}
}

// TestOwnMemory: what Way answers is the caller's own: what they write into it, or into the room behind it, changes nothing else.
func TestOwnMemory(t *testing.T) {
	d := dice(125)
	net := d.grid(4, 5, 2)
	g := must(t, net)
	for v := range net.N {
		for u := range net.N {
			kept, _ := Way(g, pair(v, u))
			want := slices.Clone(kept)
			way, _ := Way(g, pair(v, u))
			way = way[:cap(way)]
			for k := range way {
				way[k] = -7
			}
			if again, is := Way(g, pair(v, u)); !slices.Equal(kept, want) || !slices.Equal(again, want) || !is {
				t.Fatalf("R3: Way from %d to %d: %v, and again %v, %v, behind one that was written into; want %v", v, u, kept, again, is, want)
			}
		}
	}
	holds(t, "behind ways that were written into", net)
}

// TestHandedIn: distances and ways stay as they were, with the room behind their ends; and nothing of them is kept.
func TestHandedIn(t *testing.T) {
	g := must(t, example())
	room := []int64{10, 5, 0, -3, -4}
	if next, is := Next(g, room[:3], 0); next != 1 || !is || !slices.Equal(room, []int64{10, 5, 0, -3, -4}) {
		t.Errorf("R3: Next: %d, %v; the distances and the room behind them: %v", next, is, room)
	}
	nodes := []int{0, 1, 2, -3, -4}
	if d, is := Check(g, nodes[:3]); d != 10 || !is || !slices.Equal(nodes, []int{0, 1, 2, -3, -4}) {
		t.Errorf("R3: Check: %d, %v; the nodes and the room behind them: %v", d, is, nodes)
	}
	// What was handed in before plays no part any more.
	clear(room)
	clear(nodes)
	holds(t, "behind what was cleared", example())
}

// TestNoOtherGraph: what is asked of one graph plays no part in another one's answers.
func TestNoOtherGraph(t *testing.T) {
	one, other := example(), arcs(3, 0, 1, 1, 2, 1, 1, 1, 0, 4)
	for range 2 {
		holds(t, "one of two", one)
		holds(t, "the other of two", other)
	}
}

// TestSameGraph: calls of one graph, one behind the other, answer each as if it were the only one.
func TestSameGraph(t *testing.T) {
	d := dice(126)
	g := must(t, d.grid(6, 6, 3))
	for range 300 {
		v, u := d.roll(36), d.roll(36)
		way, _ := Way(g, pair(v, u))
		left, now := int64(d.roll(20)), int64(d.roll(60))
		spot, is := Spot(g, pair(v, u), left, now)
		at := left
		k := 0
		for ; at < now && k < len(way)-1; k++ {
			w, _ := g.Weight(pair(way[k], way[k+1]))
			at += int64(w)
		}
		if want := (api.Spot{Node: way[k], At: at}); spot != want || !is {
			t.Fatalf("P12.2: Spot from %d to %d, left at %d, now %d: %v, %v; want %v of %v", v, u, left, now, spot, is, want, way)
		}
	}
}
