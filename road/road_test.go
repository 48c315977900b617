package road

import (
	"bytes"
	"cmp"
	"encoding/binary"
	"math"
	"slices"
	"testing"

	"hansom/api"
)

// dice: numbers that look like chance, the same ones each time.
type dice uint64

// roll: the next number, from 0 to n - 1.
func (d *dice) roll(n int) int {
	*d ^= *d << 13
	*d ^= *d >> 7
	*d ^= *d << 17
	return int(uint64(*d) >> 11 % uint64(n))
}

// shuffled: the same arcs in any order.
func (d *dice) shuffled(l []api.Arc) []api.Arc {
	l = slices.Clone(l)
	for k := range l {
		at := k + d.roll(len(l)-k)
		l[k], l[at] = l[at], l[k]
	}
	return l
}

// network: one that may be and is in order, of n nodes, with some of all arcs: about so many of a hundred.
func (d *dice) network(n, percent int) api.Net {
	net := api.Net{N: n}
	for v := range n {
		for u := range n {
			if u != v && d.roll(100) < percent {
				net.Arcs = append(net.Arcs, api.Arc{From: v, To: u, W: 1 + d.roll(1<<uint(1+d.roll(20)))})
			}
		}
	}
	return net
}

// nums: a version, and the bytes of numbers.
func nums(l ...uint64) []byte {
	b := []byte{7}
	for _, v := range l {
		b = binary.AppendUvarint(b, v)
	}
	return b
}

// bytesOf: what the chapter's words make of a network, whether it may be or not.
func bytesOf(n api.Net) []byte {
	b := nums(uint64(n.N), uint64(len(n.Arcs)))
	for _, a := range n.Arcs {
		b = append(b, nums(uint64(a.From), uint64(a.To), uint64(a.W))[1:]...)
	}
	return b
}

// byFrom: as a network is in order.
func byFrom(a, b api.Arc) int {
	return cmp.Or(cmp.Compare(a.From, b.From), cmp.Compare(a.To, b.To))
}

// same: two networks are the same.
func same(a, b api.Net) bool {
	return a.N == b.N && slices.Equal(a.Arcs, b.Arcs)
}

// zero: nothing at all.
func zero(n api.Net) bool {
	return n.N == 0 && len(n.Arcs) == 0
}

// decodes: these bytes are this network, and it is these bytes.
func decodes(t *testing.T, what string, b []byte, n api.Net) {
	t.Helper()
	if got, e := Decode(b); e != api.OK || !same(got, n) {
		t.Errorf("P10.1: %s: Decode: N %d, %d arcs, error %d; want N %d, %d arcs, or they differ", what, got.N, len(got.Arcs), e, n.N, len(n.Arcs))
	}
	if got, e := Encode(n); e != api.OK || !bytes.Equal(got, b) {
		t.Errorf("P10.1: %s: Encode: %d bytes, error %d; want %d bytes, or they differ", what, len(got), e, len(b))
	}
}

// refuses: these bytes are no network.
func refuses(t *testing.T, what string, b []byte, e api.Errno) {
	t.Helper()
	if got, err := Decode(b); err != e || !zero(got) {
		t.Errorf("P10.1: %s: Decode of %d bytes: N %d, %d arcs, error %d; want nothing, error %d", what, len(b), got.N, len(got.Arcs), err, e)
	}
}

// noBytes: this network has no bytes.
func noBytes(t *testing.T, what string, n api.Net) {
	t.Helper()
	if b, e := Encode(n); len(b) != 0 || e != api.ErrForm {
		t.Errorf("P10.1: %s: Encode: %d bytes, error %d; want none, %d", what, len(b), e, api.ErrForm)
	}
}

// noGraph: this network has no graph.
func noGraph(t *testing.T, what string, n api.Net) {
	t.Helper()
	if g, e := New(n); g != nil || e != api.ErrArg {
		t.Errorf("P10.2: %s: New: %v, error %d; want nil, %d", what, g != nil, e, api.ErrArg)
	}
}

// must: the graph of a network.
func must(t *testing.T, n api.Net) *Graph {
	t.Helper()
	g, e := New(n)
	if g == nil || e != api.OK {
		t.Fatalf("P10.2: New of N %d, %d arcs: error %d; want a graph, OK", n.N, len(n.Arcs), e)
	}
	return g
}

// holds: a graph is of this network, by all that it answers, each thing twice; the plain list is gone through for each node.
func holds(t *testing.T, what string, g *Graph, n api.Net) {
	t.Helper()
	l := slices.Clone(n.Arcs)
	slices.SortFunc(l, byFrom)
	for range 2 {
		if g.Nodes() != n.N || g.Arcs() != len(l) {
			t.Errorf("P10.2: %s: Nodes %d, Arcs %d; want %d, %d", what, g.Nodes(), g.Arcs(), n.N, len(l))
		}
		if got := g.Net(); !same(got, api.Net{N: n.N, Arcs: l}) {
			t.Errorf("P10.2: %s: Net: %v; want %d %v", what, got, n.N, l)
		}
		for v := -1; v <= n.N; v++ {
			holdsNode(t, what, g, v, l)
		}
	}
}

// holdsNode: what a graph answers of one node, or of no node, is what the plain list has, which is in order.
func holdsNode(t *testing.T, what string, g *Graph, v int, l []api.Arc) {
	t.Helper()
	var out, in []api.Arc
	weights := map[int]int{}
	for _, a := range l {
		if a.From == v {
			out = append(out, a)
			weights[a.To] = a.W
		}
		if a.To == v {
			in = append(in, a)
		}
	}
	if got := g.Out(v); !slices.Equal(got, out) {
		t.Errorf("P10.2: %s: Out(%d): %v; want %v", what, v, got, out)
	}
	if got := g.In(v); !slices.Equal(got, in) {
		t.Errorf("P10.2: %s: In(%d): %v; want %v", what, v, got, in)
	}
	for u := -1; u <= g.Nodes(); u++ {
		w, is := weights[u]
		if got, isGot := g.Weight(api.Pair{From: int32(v), To: int32(u)}); got != w || isGot != is {
			t.Errorf("P10.2: %s: Weight(%d, %d): %d, %v; want %d, %v", what, v, u, got, isGot, w, is)
		}
	}
}

func TestExample(t *testing.T) {
	n := api.Net{N: 2, Arcs: []api.Arc{{From: 0, To: 1, W: 5}}}
	decodes(t, "the example", []byte{7, 2, 1, 0, 1, 5}, n)
	holds(t, "the example", must(t, n), n)
}

// TestSizes: networks of many sizes are decoded, encoded, and made into graphs from arcs in any order.
func TestSizes(t *testing.T) {
	d := dice(10)
	for n := 1; n <= 24; n++ {
		for _, percent := range []int{0, 3, 20, 60, 100} {
			net := d.network(n, percent)
			decodes(t, "any network", bytesOf(net), net)
			holds(t, "in order", must(t, net), net)
			for range 3 {
				mixed := api.Net{N: n, Arcs: d.shuffled(net.Arcs)}
				holds(t, "in any order", must(t, mixed), net)
				if !slices.Equal(mixed.Arcs, net.Arcs) {
					noBytes(t, "not in order", mixed)
					refuses(t, "not in order", bytesOf(mixed), api.ErrForm)
				}
			}
		}
	}
}

// TestNodesEdges: how many nodes there may be.
func TestNodesEdges(t *testing.T) {
	for _, n := range []int{1, 2, 127, 128, api.MaxNodes - 1, api.MaxNodes} {
		net := api.Net{N: n}
		decodes(t, "no arcs", bytesOf(net), net)
		g := must(t, net)
		if g.Nodes() != n || g.Arcs() != 0 || g.Net().N != n || len(g.Net().Arcs) != 0 {
			t.Errorf("P10.2: a graph of %d nodes without arcs: Nodes %d, Arcs %d, Net %v", n, g.Nodes(), g.Arcs(), g.Net())
		}
		for _, v := range []int{math.MinInt, -1, 0, n - 1, n, n + 1, math.MaxInt} {
			if len(g.Out(v)) != 0 || len(g.In(v)) != 0 {
				t.Errorf("P10.2: Out(%d), In(%d) of %d nodes without arcs: %v, %v", v, v, n, g.Out(v), g.In(v))
			}
		}
	}
	for _, n := range []int{math.MinInt, math.MinInt32, -1, 0, api.MaxNodes + 1, 2 * api.MaxNodes, 1 << 32, 1<<32 + 1, math.MaxInt} {
		noBytes(t, "no such N", api.Net{N: n})
		noGraph(t, "no such N", api.Net{N: n})
	}
	for _, n := range []uint64{0, api.MaxNodes + 1, 1 << 32, 1<<32 + 1, 1 << 63, math.MaxUint64} {
		refuses(t, "no such N", nums(n, 0), api.ErrForm)
	}
}

// TestFarNodes: the first and the last of as many nodes as there may be.
func TestFarNodes(t *testing.T) {
	const last = api.MaxNodes - 1
	n := api.Net{N: api.MaxNodes, Arcs: []api.Arc{{From: 0, To: last, W: api.MaxWeight}, {From: last, To: 0, W: 1}, {From: last, To: last - 1, W: 2}}}
	decodes(t, "far nodes", bytesOf(n), n)
	g := must(t, api.Net{N: n.N, Arcs: []api.Arc{n.Arcs[2], n.Arcs[0], n.Arcs[1]}})
	if !same(g.Net(), n) || !slices.Equal(g.Out(0), n.Arcs[:1]) || !slices.Equal(g.Out(last), n.Arcs[1:]) {
		t.Errorf("P10.2: far nodes: Out(0) %v, Out(last) %v, Net %v", g.Out(0), g.Out(last), g.Net())
	}
	if !slices.Equal(g.In(0), n.Arcs[1:2]) || !slices.Equal(g.In(last), n.Arcs[:1]) || !slices.Equal(g.In(last-1), n.Arcs[2:]) {
		t.Errorf("P10.2: far nodes: In(0) %v, In(last) %v, In(last - 1) %v", g.In(0), g.In(last), g.In(last-1))
	}
	if w, is := g.Weight(api.Pair{From: 0, To: last}); w != api.MaxWeight || !is {
		t.Errorf("P10.2: far nodes: Weight: %d, %v", w, is)
	}
}

// arcRows: arcs of a network of three nodes, whether they may be, and whether they are in order.
var arcRows = []struct {
	what           string
	arcs           []api.Arc
	mayBe, inOrder bool
}{
	{"no arcs", nil, true, true},
	{"weight 1", []api.Arc{{From: 0, To: 1, W: 1}}, true, true},
	{"the greatest weight", []api.Arc{{From: 0, To: 1, W: api.MaxWeight}}, true, true},
	{"weight 0", []api.Arc{{From: 0, To: 1}}, false, true},
	{"weight 0, the last one", []api.Arc{{From: 0, To: 1, W: 1}, {From: 0, To: 2}}, false, true},
	{"weight -1", []api.Arc{{From: 0, To: 1, W: -1}}, false, true},
	{"a weight above", []api.Arc{{From: 0, To: 1, W: api.MaxWeight + 1}}, false, true},
	{"a weight far above", []api.Arc{{From: 0, To: 1, W: 1<<32 + 1}}, false, true},
	{"a weight as far above as can be", []api.Arc{{From: 0, To: 1, W: math.MaxInt}}, false, true},
	{"a weight as far below as can be", []api.Arc{{From: 0, To: 1, W: math.MinInt}}, false, true},
	{"from -1", []api.Arc{{From: -1, To: 1, W: 1}}, false, true},
	{"to -1", []api.Arc{{From: 0, To: -1, W: 1}}, false, true},
	{"from N - 1", []api.Arc{{From: 2, To: 1, W: 1}}, true, true},
	{"to N - 1", []api.Arc{{From: 0, To: 2, W: 1}}, true, true},
	{"from N", []api.Arc{{From: 3, To: 1, W: 1}}, false, true},
	{"to N", []api.Arc{{From: 0, To: 3, W: 1}}, false, true},
	{"from the bound of all nodes", []api.Arc{{From: api.MaxNodes, To: 1, W: 1}}, false, true},
	{"to the bound of all nodes", []api.Arc{{From: 0, To: api.MaxNodes, W: 1}}, false, true},
	{"from far above", []api.Arc{{From: 1 << 32, To: 1, W: 1}}, false, true},
	{"to far above", []api.Arc{{From: 0, To: 1<<32 + 1, W: 1}}, false, true},
	{"from as far above as can be", []api.Arc{{From: math.MaxInt, To: 1, W: 1}}, false, true},
	{"to as far below as can be", []api.Arc{{From: 0, To: math.MinInt, W: 1}}, false, true},
	{"from a node to itself", []api.Arc{{From: 0, To: 0, W: 1}}, false, true},
	{"from the last node to itself", []api.Arc{{From: 0, To: 1, W: 1}, {From: 2, To: 2, W: 1}}, false, true},
	{"the same ends", []api.Arc{{From: 0, To: 1, W: 1}, {From: 0, To: 1, W: 2}}, false, false},
	{"the same ends and weight", []api.Arc{{From: 1, To: 2, W: 4}, {From: 1, To: 2, W: 4}}, false, false},
	{"the same ends, others between", []api.Arc{{From: 1, To: 2, W: 1}, {From: 0, To: 1, W: 1}, {From: 1, To: 0, W: 3}, {From: 1, To: 2, W: 2}}, false, false},
	{"one against the other", []api.Arc{{From: 0, To: 1, W: 3}, {From: 1, To: 0, W: 2}}, true, true},
	{"one against the other, falling", []api.Arc{{From: 1, To: 0, W: 3}, {From: 0, To: 1, W: 2}}, true, false},
	{"rising by To", []api.Arc{{From: 1, To: 0, W: 9}, {From: 1, To: 2, W: 8}}, true, true},
	{"falling by To", []api.Arc{{From: 1, To: 2, W: 8}, {From: 1, To: 0, W: 9}}, true, false},
	{"falling by From, rising by To", []api.Arc{{From: 1, To: 0, W: 8}, {From: 0, To: 1, W: 9}}, true, false},
	{"falling by From, of one To", []api.Arc{{From: 2, To: 1, W: 1}, {From: 0, To: 1, W: 2}}, true, false},
	{"rising by From, falling by To", []api.Arc{{From: 0, To: 2, W: 1}, {From: 1, To: 0, W: 2}, {From: 2, To: 0, W: 1}}, true, true},
	{"all of them", []api.Arc{{From: 0, To: 1, W: 1}, {From: 0, To: 2, W: 2}, {From: 1, To: 0, W: 3}, {From: 1, To: 2, W: 4}, {From: 2, To: 0, W: 5}, {From: 2, To: 1, W: 6}}, true, true},
	{"all of them, the last two falling", []api.Arc{{From: 0, To: 1, W: 1}, {From: 0, To: 2, W: 2}, {From: 1, To: 0, W: 3}, {From: 1, To: 2, W: 4}, {From: 2, To: 1, W: 6}, {From: 2, To: 0, W: 5}}, true, false},
}

func TestArcRows(t *testing.T) {
	for _, row := range arcRows {
		n := api.Net{N: 3, Arcs: row.arcs}
		switch {
		case !row.mayBe:
			noBytes(t, row.what, n)
			noGraph(t, row.what, n)
		case !row.inOrder:
			noBytes(t, row.what, n)
			holds(t, row.what, must(t, n), n)
		default:
			decodes(t, row.what, bytesOf(n), n)
			holds(t, row.what, must(t, n), n)
		}
		// A number below 0 is, as bytes, one far above all bounds.
		if !row.mayBe || !row.inOrder {
			refuses(t, row.what, bytesOf(n), api.ErrForm)
		}
	}
}

// TestOneNode: one node has no arcs.
func TestOneNode(t *testing.T) {
	holds(t, "one node", must(t, api.Net{N: 1}), api.Net{N: 1})
	for _, a := range []api.Arc{{W: 1}, {To: 1, W: 1}, {From: 1, W: 1}} {
		n := api.Net{N: 1, Arcs: []api.Arc{a}}
		noGraph(t, "one node with an arc", n)
		noBytes(t, "one node with an arc", n)
		refuses(t, "one node with an arc", bytesOf(n), api.ErrForm)
	}
}

// TestFaults: bytes that are none, of another version, with numbers above their bounds or in another form; of two faults the one that comes first.
func TestFaults(t *testing.T) {
	long := bytes.Repeat([]byte{0xff}, 9)
	head := func(l ...byte) []byte { return append([]byte{7}, l...) }
	rows := []struct {
		what string
		b    []byte
		e    api.Errno
	}{
		{"no bytes", nil, api.ErrShort},
		{"no bytes, not nil", []byte{}, api.ErrShort},
		{"a version alone", head(), api.ErrShort},
		{"another version alone", []byte{6}, api.ErrForm},
		{"another version", []byte{8, 2, 1, 0, 1, 5}, api.ErrForm},
		{"version 0", []byte{0, 2, 1, 0, 1, 5}, api.ErrForm},
		{"a version of two bytes", []byte{0x87, 0, 2, 1, 0, 1, 5}, api.ErrForm},
		{"another version, and a number that does not end", []byte{9, 0x80}, api.ErrForm},
		{"N alone", head(2), api.ErrShort},
		{"N 0 alone", head(0), api.ErrShort},
		{"N 0", head(0, 0), api.ErrForm},
		{"N above, alone", nums(api.MaxNodes + 1), api.ErrForm},
		{"N not in its one form", head(0x82, 0, 1, 0, 1, 5), api.ErrForm},
		{"N 0, an arc that ends", head(0, 1, 0, 1), api.ErrShort},
		{"N of the greatest length, and no more", head(append(long, 1)...), api.ErrForm},
		{"N beyond the greatest length, and no more", head(append(long, 2)...), api.ErrForm},
		{"N of nine bytes that do not end", head(long...), api.ErrShort},
		{"how many, above, alone", nums(2, api.MaxArcs+1), api.ErrForm},
		{"how many, as many as may be, alone", nums(2, api.MaxArcs), api.ErrShort},
		{"how many, of the greatest length", head(append([]byte{2}, append(long, 1)...)...), api.ErrForm},
		{"how many, not in its one form", head(2, 0x80, 0), api.ErrForm},
		{"more arcs than there are", head(2, 2, 0, 1, 5), api.ErrShort},
		{"From above, alone", nums(2, 1, api.MaxNodes+1), api.ErrForm},
		{"From at the bound, alone", nums(2, 1, api.MaxNodes), api.ErrShort},
		{"From at the bound", nums(2, 1, api.MaxNodes, 1, 5), api.ErrForm},
		{"From not in its one form", head(2, 1, 0x80, 0, 1, 5), api.ErrForm},
		{"To above, alone", nums(2, 1, 0, api.MaxNodes+1), api.ErrForm},
		{"To at the bound, alone", nums(2, 1, 0, api.MaxNodes), api.ErrShort},
		{"To at the bound", nums(2, 1, 0, api.MaxNodes, 5), api.ErrForm},
		{"To not in its one form", head(2, 1, 0, 0x81, 0, 5), api.ErrForm},
		{"W above, alone", nums(2, 2, 0, 1, api.MaxWeight+1), api.ErrForm},
		{"W at the bound, and one arc less than said", nums(2, 2, 0, 1, api.MaxWeight), api.ErrShort},
		{"W not in its one form", head(2, 1, 0, 1, 0x85, 0), api.ErrForm},
		{"W of the greatest length", head(append([]byte{2, 1, 0, 1}, append(long, 1)...)...), api.ErrForm},
		{"W 0, alone", head(2, 2, 0, 1, 0), api.ErrShort},
		{"an arc to itself, and one less than said", head(2, 2, 1, 1, 5), api.ErrShort},
		{"an arc that may not be, and a number that does not end", head(2, 2, 0, 2, 5, 0, 1, 0x80), api.ErrShort},
		{"arcs that fall, and one less than said", head(2, 3, 1, 0, 5, 0, 1, 5), api.ErrShort},
		{"bytes are left", head(2, 1, 0, 1, 5, 0), api.ErrForm},
		{"a whole arc is left", head(2, 1, 0, 1, 5, 1, 0, 5), api.ErrForm},
		{"bytes are left behind no arcs", head(2, 0, 0), api.ErrForm},
		{"what is left does not end", head(2, 1, 0, 1, 5, 0x80), api.ErrForm},
		{"it may not be, and bytes are left", head(2, 1, 0, 0, 5, 0), api.ErrForm},
	}
	for _, row := range rows {
		refuses(t, row.what, row.b, row.e)
	}
	for v := range 256 {
		if v != api.Version {
			refuses(t, "another version", []byte{byte(v), 2, 1, 0, 1, 5}, api.ErrForm)
			refuses(t, "another version alone", []byte{byte(v)}, api.ErrForm)
		}
	}
}

// TestCut: bytes that end at each place are short, whatever the network of all of them; with more behind them they are no network.
func TestCut(t *testing.T) {
	far := api.Net{N: 70000, Arcs: []api.Arc{{From: 0, To: 300, W: 128}, {From: 5, To: 65536, W: api.MaxWeight}, {From: 69999, To: 0, W: 1}}}
	falls := api.Net{N: 3, Arcs: []api.Arc{{From: 1, To: 0, W: 1}, {From: 0, To: 1, W: 1}, {From: 2, To: 2, W: 1}}}
	d := dice(4)
	for _, n := range []api.Net{far, falls, {N: 0}, {N: api.MaxNodes}, d.network(9, 50)} {
		b := bytesOf(n)
		for at := range b {
			refuses(t, "cut", b[:at], api.ErrShort)
		}
		for _, more := range []byte{0, 1, 7, 0x80, 0xff} {
			refuses(t, "more bytes", append(slices.Clone(b), more), api.ErrForm)
		}
	}
	decodes(t, "not cut", bytesOf(far), far)
}

// number: the number with which bytes begin, and what is behind it, by the words of chapter 3.
func number(b []byte, most uint64) (uint64, []byte, api.Errno) {
	v, size := binary.Uvarint(b)
	switch {
	case size == 0:
		return 0, nil, api.ErrShort
	case size < 0 || v > most || size > 1 && b[size-1] == 0:
		return 0, nil, api.ErrForm
	}
	return v, b[size:], api.OK
}

// plainDecode: what the chapter says of bytes, word by word.
func plainDecode(b []byte) (api.Net, api.Errno) {
	if len(b) == 0 {
		return api.Net{}, api.ErrShort
	}
	if b[0] != 7 {
		return api.Net{}, api.ErrForm
	}
	n, b, e := number(b[1:], 1<<22)
	if e != api.OK {
		return api.Net{}, e
	}
	count, b, e := number(b, 1<<22)
	if e != api.OK {
		return api.Net{}, e
	}
	net := api.Net{N: int(n)}
	for range count {
		var v [3]uint64
		for i, most := range []uint64{1 << 22, 1 << 22, 1 << 20} {
			v[i], b, e = number(b, most)
			if e != api.OK {
				return api.Net{}, e
			}
		}
		net.Arcs = append(net.Arcs, api.Arc{From: int(v[0]), To: int(v[1]), W: int(v[2])})
	}
	if len(b) > 0 || net.N < 1 || !slices.IsSortedFunc(net.Arcs, byFrom) {
		return api.Net{}, api.ErrForm
	}
	ends := map[[2]int]int{}
	for _, a := range net.Arcs {
		ends[[2]int{a.From, a.To}]++
		if a.From >= net.N || a.To >= net.N || a.From == a.To || a.W == 0 || ends[[2]int{a.From, a.To}] > 1 {
			return api.Net{}, api.ErrForm
		}
	}
	return net, api.OK
}

// TestAnyBytes: any bytes, most of them near those of a network: each is one, and is what it is encoded as, or is refused as the chapter says.
func TestAnyBytes(t *testing.T) {
	d := dice(101)
	good, bad := 0, map[api.Errno]int{}
	for range 60000 {
		b := bytesOf(d.network(1+d.roll(5), 40))
		for range d.roll(4) {
			switch at := d.roll(len(b)); d.roll(6) {
			case 0:
				b[at] = byte(d.roll(256))
			case 1:
				b[at] = byte(d.roll(6))
			case 2:
				b = slices.Insert(b, at, byte(d.roll(256)))
			case 3:
				b = slices.Delete(b, at, at+1)
			case 4:
				b = append(b, byte(d.roll(256)))
			case 5:
				b[at]++
			}
			if len(b) == 0 {
				break
			}
		}
		want, e := plainDecode(b)
		if e == api.OK {
			good++
			decodes(t, "any bytes", b, want)
		} else {
			bad[e]++
			refuses(t, "any bytes", b, e)
		}
		if t.Failed() {
			t.Fatalf("the bytes: %x", b)
		}
	}
	if good < 9000 || bad[api.ErrShort] < 1000 || bad[api.ErrForm] < 9000 {
		t.Errorf("bytes of one kind are too few: %d, %v", good, bad)
	}
}

// everyArc: so many arcs of a network of n nodes, in order.
func everyArc(n, count int) []api.Arc {
	l := make([]api.Arc, 0, count)
	for v := range n {
		for u := range n {
			if u != v && len(l) < count {
				l = append(l, api.Arc{From: v, To: u, W: 1 + (v+u)%api.MaxWeight})
			}
		}
	}
	return l
}

// TestArcsEdges: as many arcs as there may be, and one more.
func TestArcsEdges(t *testing.T) {
	const nodes = 2049 // the last one has the one arc more
	l := everyArc(nodes, api.MaxArcs+1)
	most, more := api.Net{N: nodes, Arcs: l[:api.MaxArcs]}, api.Net{N: nodes, Arcs: l}
	noBytes(t, "one arc more", more)
	noGraph(t, "one arc more", more)
	refuses(t, "one arc more", nums(nodes, api.MaxArcs+1, 0, 1, 2), api.ErrForm)
	b, e := Encode(most)
	if e != api.OK || !bytes.Equal(b[:10], nums(nodes, api.MaxArcs, 0, 1, 2)[:10]) {
		t.Fatalf("P10.1: Encode of %d arcs: error %d", len(most.Arcs), e)
	}
	if n, e := Decode(b); e != api.OK || !same(n, most) {
		t.Errorf("P10.1: Decode of %d arcs: N %d, %d arcs, error %d, or they differ", len(most.Arcs), n.N, len(n.Arcs), e)
	}
	refuses(t, "one of many arcs cut", b[:len(b)-1], api.ErrShort)
	g := must(t, most)
	if g.Arcs() != api.MaxArcs || !same(g.Net(), most) {
		t.Errorf("P10.2: the graph of %d arcs: Arcs %d, or Net differs", len(most.Arcs), g.Arcs())
	}
	for _, v := range []int{0, 1, 1000, nodes - 1} {
		if out := g.Out(v); !slices.Equal(out, l[v*(nodes-1):min((v+1)*(nodes-1), api.MaxArcs)]) {
			t.Errorf("P10.2: Out(%d) of %d arcs: %d, or they differ", v, len(most.Arcs), len(out))
		}
	}
	if in := g.In(7); !slices.IsSortedFunc(in, byFrom) || len(in) != nodes-2 || in[9] != (api.Arc{From: 10, To: 7, W: 18}) {
		t.Errorf("P10.2: In(7) of %d arcs: %d of them, or they differ", len(most.Arcs), len(in))
	}
	if w, is := g.Weight(api.Pair{From: 1500, To: 1400}); w != 2901 || !is {
		t.Errorf("P10.2: Weight of %d arcs: %d, %v", len(most.Arcs), w, is)
	}
}

// TestNoNode: Out, In and Weight of what is no node.
func TestNoNode(t *testing.T) {
	g := must(t, api.Net{N: 3, Arcs: everyArc(3, 6)})
	for _, v := range []int{math.MinInt, math.MinInt32, -2, -1, 3, 4, 6, 7, api.MaxNodes, 1 << 32, 1<<32 + 1, math.MaxInt} {
		if len(g.Out(v)) != 0 || len(g.In(v)) != 0 {
			t.Errorf("P10.2: Out(%d), In(%d): %v, %v; want none", v, v, g.Out(v), g.In(v))
		}
	}
	for _, v := range []int32{math.MinInt32, -1, 3, 4, math.MaxInt32} {
		for _, p := range []api.Pair{{From: v, To: 1}, {From: 1, To: v}, {From: v, To: v}} {
			if w, is := g.Weight(p); w != 0 || is {
				t.Errorf("P10.2: Weight(%v): %d, %v; want 0, false", p, w, is)
			}
		}
	}
	if w, is := g.Weight(api.Pair{From: 2, To: 2}); w != 0 || is {
		t.Errorf("P10.2: Weight from a node to itself: %d, %v; want 0, false", w, is)
	}
}

// TestNil: a nil graph, and one that New has not made.
func TestNil(t *testing.T) {
	for _, g := range []*Graph{nil, {}} {
		if g.Nodes() != 0 || g.Arcs() != 0 || !zero(g.Net()) {
			t.Errorf("P10.2: nil: Nodes %d, Arcs %d, Net %v; want zero", g.Nodes(), g.Arcs(), g.Net())
		}
		for _, v := range []int{math.MinInt, -1, 0, 1, math.MaxInt} {
			if len(g.Out(v)) != 0 || len(g.In(v)) != 0 {
				t.Errorf("P10.2: nil: Out(%d), In(%d): %v, %v; want none", v, v, g.Out(v), g.In(v))
			}
		}
		for _, p := range []api.Pair{{}, {From: 0, To: 1}, {From: -1, To: 5}} {
			if w, is := g.Weight(p); w != 0 || is {
				t.Errorf("P10.2: nil: Weight(%v): %d, %v; want 0, false", p, w, is)
			}
		}
	}
}

// spoil: writes into a list, and into the room behind its end.
func spoil(l []api.Arc) {
	l = l[:cap(l)]
	for i := range l {
		l[i] = api.Arc{From: -9, To: -9, W: -9}
	}
}

// TestOwnAnswers: whoever writes into what a graph answers changes nothing of it, nor of another answer.
func TestOwnAnswers(t *testing.T) {
	n := api.Net{N: 5, Arcs: everyArc(5, 20)}
	g := must(t, n)
	for v := range n.N {
		out, in := g.Out(v), g.In(v)
		spoil(g.Out(v))
		spoil(g.In(v))
		if !slices.Equal(out, g.Out(v)) || !slices.Equal(in, g.In(v)) {
			t.Errorf("R3: Out(%d), In(%d): one answer changes with another one", v, v)
		}
	}
	spoil(g.Net().Arcs)
	holds(t, "spoilt answers", g, n)
	b := bytesOf(n)
	first, _ := Decode(b)
	second, _ := Decode(b)
	spoil(second.Arcs)
	if !same(first, n) {
		t.Error("R3: Decode: one answer changes with another one")
	}
	mine, _ := Encode(n)
	other, _ := Encode(n)
	clear(other[:cap(other)])
	if !bytes.Equal(mine, b) {
		t.Error("R3: Encode: one answer changes with another one")
	}
}

// TestOwnArguments: what is handed in is not changed, with the room behind its end, and not kept.
func TestOwnArguments(t *testing.T) {
	d := dice(31)
	n := api.Net{N: 5, Arcs: everyArc(5, 20)}
	mixed := append(d.shuffled(n.Arcs), api.Arc{W: 77}, api.Arc{W: 78})
	given := slices.Clone(mixed)
	g := must(t, api.Net{N: 5, Arcs: mixed[:20]})
	if !slices.Equal(mixed, given) {
		t.Error("R3: New changes the arcs that it is given")
	}
	spoil(mixed)
	holds(t, "spoilt arguments", g, n)
	inOrder := append(slices.Clone(n.Arcs), api.Arc{W: 77}, api.Arc{W: 78})
	given = slices.Clone(inOrder)
	b, e := Encode(api.Net{N: 5, Arcs: inOrder[:20]})
	if e != api.OK || !slices.Equal(inOrder, given) {
		t.Errorf("R3: Encode changes the arcs that it is given; error %d", e)
	}
	room := append(slices.Clone(b), 1, 2, 3)
	was := slices.Clone(room)
	got, e := Decode(room[:len(b)])
	if e != api.OK || !bytes.Equal(room, was) {
		t.Errorf("R3: Decode changes the bytes that it is given; error %d", e)
	}
	clear(room)
	if !same(got, n) {
		t.Error("R3: Decode keeps the bytes that it is given")
	}
}

// TestApart: a network of no arcs is the same with nil and with an empty list; two graphs know nothing of each other.
func TestApart(t *testing.T) {
	decodes(t, "an empty list", []byte{7, 3, 0}, api.Net{N: 3, Arcs: []api.Arc{}})
	holds(t, "an empty list", must(t, api.Net{N: 3, Arcs: []api.Arc{}}), api.Net{N: 3})
	one := api.Net{N: 4, Arcs: []api.Arc{{From: 3, To: 0, W: 4}}}
	two := api.Net{N: 2, Arcs: []api.Arc{{From: 0, To: 1, W: 9}}}
	a, b := must(t, one), must(t, two)
	holds(t, "one", a, one)
	holds(t, "the other", b, two)
}
