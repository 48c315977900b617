package num

import (
	"math"
	"slices"
	"testing"

	"hansom/api"
)

// edges: numbers about which sums, bounds and signs turn.
func edges() []int64 {
	return []int64{
		math.MinInt64, math.MinInt64 + 1, -api.Inf, -2, -1, 0, 1, 2, 5,
		api.Inf/2 - 1, api.Inf / 2, api.Inf/2 + 1,
		api.Inf - 2, api.Inf - 1, api.Inf, api.Inf + 1, 2 * api.Inf,
		math.MaxInt64 - 1, math.MaxInt64,
	}
}

// noise: a fixed row of words that look like chance, so that a test that fails once fails always.
func noise(n int) []uint64 {
	words := make([]uint64, n)
	x := uint64(0x9e3779b97f4a7c15)
	for i := range words {
		x ^= x << 13
		x ^= x >> 7
		x ^= x << 17
		words[i] = x
	}
	return words
}

// ones: so many widths of 1.
func ones(n int) []int {
	return slices.Repeat([]int{1}, n)
}

func TestAdd(t *testing.T) {
	rows := []struct{ a, b, want int64 }{
		{0, 0, 0},
		{2, 3, 5},
		{api.Inf, 5, api.Inf},
		{5, api.Inf, api.Inf},
		{api.Inf, 0, api.Inf},
		{api.Inf, api.Inf, api.Inf},
		{api.Inf + 1, 0, api.Inf},
		{api.Inf - 1, 0, api.Inf - 1},
		{api.Inf - 1, 1, api.Inf},
		{api.Inf - 2, 1, api.Inf - 1},
		{api.Inf - 1, api.Inf - 1, api.Inf},
		{api.Inf / 2, api.Inf / 2, api.Inf},
		{api.Inf / 2, api.Inf/2 - 1, api.Inf - 1},
		{-7, 3, 3},
		{3, -7, 3},
		{-1, -1, 0},
		{-1, api.Inf - 1, api.Inf - 1},
		{-1, api.Inf, api.Inf},
		{math.MinInt64, math.MinInt64, 0},
		{math.MinInt64, math.MaxInt64, api.Inf},
		{math.MaxInt64, math.MaxInt64, api.Inf},
		{math.MaxInt64, 1, api.Inf},
	}
	for _, r := range rows {
		if got := Add(r.a, r.b); got != r.want {
			t.Errorf("P1.1: Add(%d, %d): %d; want %d", r.a, r.b, got, r.want)
		}
	}
}

// saysAdd: P1.1 word by word, with floors that keep the sum of two numbers below Inf from going round.
func saysAdd(a, b int64) int64 {
	if a >= api.Inf || b >= api.Inf {
		return api.Inf
	}
	if a < 0 {
		a = 0
	}
	if b < 0 {
		b = 0
	}
	if a+b >= api.Inf {
		return api.Inf
	}
	return a + b
}

func TestAddAtAllEdges(t *testing.T) {
	for _, a := range edges() {
		for _, b := range edges() {
			got := Add(a, b)
			if want := saysAdd(a, b); got != want {
				t.Errorf("P1.1: Add(%d, %d): %d; want %d", a, b, got, want)
			}
			if turned := Add(b, a); turned != got {
				t.Errorf("P1.1: Add(%d, %d) is %d, the other way round %d", a, b, got, turned)
			}
		}
	}
}

func TestAddInAnyOrder(t *testing.T) {
	for _, a := range edges() {
		for _, b := range edges() {
			for _, c := range edges() {
				if a < 0 || b < 0 || c < 0 {
					continue
				}
				if x, y := Add(Add(a, b), c), Add(a, Add(b, c)); x != y {
					t.Errorf("P1.1: %d, %d and %d together: %d, or %d", a, b, c, x, y)
				}
			}
		}
	}
}

func TestLess(t *testing.T) {
	rows := []struct {
		a, b int64
		want bool
	}{
		{1, 2, true},
		{2, 1, false},
		{2, 2, false},
		{-2, -1, true},
		{-1, -2, false},
		{-1, 0, true},
		{math.MinInt64, math.MaxInt64, true},
		{math.MaxInt64, math.MinInt64, false},
		{api.Inf - 1, api.Inf, true},
		{api.Inf - 1, api.Inf + 1, true},
		{api.Inf - 1, api.Inf - 1, false},
		{api.Inf, api.Inf, false},
		{api.Inf, api.Inf + 1, false},
		{api.Inf, math.MaxInt64, false},
		{api.Inf + 1, api.Inf, false},
		{api.Inf, 0, false},
	}
	for _, r := range rows {
		if got := Less(r.a, r.b); got != r.want {
			t.Errorf("P1.1: Less(%d, %d): %v; want %v", r.a, r.b, got, r.want)
		}
	}
}

func TestMin(t *testing.T) {
	rows := []struct{ a, b, want int64 }{
		{1, 2, 1},
		{2, 1, 1},
		{2, 2, 2},
		{-3, 4, -3},
		{4, -3, -3},
		{-3, -4, -4},
		{api.Inf, api.Inf + 1, api.Inf},
		{math.MaxInt64, api.Inf + 1, api.Inf + 1},
		{math.MinInt64, math.MaxInt64, math.MinInt64},
	}
	for _, r := range rows {
		if got := Min(r.a, r.b); got != r.want {
			t.Errorf("P1.1: Min(%d, %d): %d; want %d", r.a, r.b, got, r.want)
		}
	}
}

func TestPack(t *testing.T) {
	rows := []struct {
		v    []uint64
		bits []int
		want uint64
	}{
		{nil, nil, 0},
		{[]uint64{}, []int{}, 0},
		{[]uint64{5, 1}, []int{3, 1}, 13},
		{[]uint64{1, 5}, []int{1, 3}, 11},
		{[]uint64{0}, []int{1}, 0},
		{[]uint64{1}, []int{1}, 1},
		{[]uint64{7}, []int{3}, 7},
		{[]uint64{math.MaxUint64}, []int{64}, math.MaxUint64},
		{[]uint64{1 << 63}, []int{64}, 1 << 63},
		{[]uint64{1<<63 - 1, 1}, []int{63, 1}, math.MaxUint64},
		{[]uint64{1, 1<<63 - 1}, []int{1, 63}, math.MaxUint64},
		{[]uint64{0, 1}, []int{63, 1}, 1 << 63},
		{[]uint64{1, 0}, []int{63, 1}, 1},
		{[]uint64{0xab, 0xcd, 0xef}, []int{8, 16, 8}, 0xef00cdab},
		{slices.Repeat([]uint64{1}, 64), ones(64), math.MaxUint64},
	}
	for _, r := range rows {
		if got, e := Pack(r.v, r.bits); got != r.want || e != api.OK {
			t.Errorf("P1.2: Pack(%v, %v): %#x, error %d; want %#x", r.v, r.bits, got, e, r.want)
		}
	}
}

// wrongWidths: widths that are not right.
func wrongWidths() [][]int {
	return [][]int{
		{0}, {-1}, {65}, {math.MinInt}, {math.MaxInt},
		{3, 0}, {0, 3}, {3, -3}, {64, 1}, {1, 64}, {33, 32}, {32, 32, 1}, {60, -60, 3},
		{math.MaxInt, math.MaxInt}, {math.MaxInt, math.MaxInt, 2}, {1, math.MaxInt}, {math.MinInt, math.MinInt},
		ones(65), slices.Repeat([]int{0}, 65), append(ones(64), 0),
	}
}

func TestPackRefusesWidths(t *testing.T) {
	for _, bits := range wrongWidths() {
		if w, e := Pack(make([]uint64, len(bits)), bits); w != 0 || e != api.ErrArg {
			t.Errorf("P1.2: Pack with the widths %v: %#x, error %d; want ErrArg", bits, w, e)
		}
	}
}

func TestPackRefusesOtherCounts(t *testing.T) {
	rows := []struct {
		v    []uint64
		bits []int
	}{
		{nil, []int{3}},
		{[]uint64{1}, nil},
		{[]uint64{1}, []int{3, 3}},
		{[]uint64{1, 1}, []int{3}},
		{make([]uint64, 65), ones(64)},
		{make([]uint64, 63), ones(64)},
	}
	for _, r := range rows {
		if w, e := Pack(r.v, r.bits); w != 0 || e != api.ErrArg {
			t.Errorf("P1.2: Pack of %d numbers with %d widths: %#x, error %d; want ErrArg", len(r.v), len(r.bits), w, e)
		}
	}
}

func TestPackRefusesWideNumbers(t *testing.T) {
	rows := []struct {
		v    []uint64
		bits []int
		want api.Errno
	}{
		{[]uint64{9}, []int{3}, api.ErrOver},
		{[]uint64{8}, []int{3}, api.ErrOver},
		{[]uint64{2}, []int{1}, api.ErrOver},
		{[]uint64{1 << 63}, []int{63}, api.ErrOver},
		{[]uint64{math.MaxUint64}, []int{63}, api.ErrOver},
		{[]uint64{1, 2}, []int{63, 1}, api.ErrOver},
		{[]uint64{2, 1}, []int{1, 63}, api.ErrOver},
		{[]uint64{7, 9, 9}, []int{3, 3, 3}, api.ErrOver},
		// Both are wrong: what is named first counts.
		{[]uint64{9}, []int{3, 3}, api.ErrArg},
		{[]uint64{9, 9}, []int{3}, api.ErrArg},
		{[]uint64{9, 0}, []int{3, 65}, api.ErrArg},
		{[]uint64{9, 0}, []int{3, 62}, api.ErrArg},
	}
	for _, r := range rows {
		if w, e := Pack(r.v, r.bits); w != 0 || e != r.want {
			t.Errorf("P1.2: Pack(%v, %v): %#x, error %d; want error %d", r.v, r.bits, w, e, r.want)
		}
	}
}

func TestUnpack(t *testing.T) {
	rows := []struct {
		w    uint64
		bits []int
		want []uint64
	}{
		{0, nil, nil},
		{13, []int{3, 1}, []uint64{5, 1}},
		{0, []int{3, 1}, []uint64{0, 0}},
		{1, []int{1}, []uint64{1}},
		{math.MaxUint64, []int{64}, []uint64{math.MaxUint64}},
		{math.MaxUint64, []int{63, 1}, []uint64{1<<63 - 1, 1}},
		{math.MaxUint64, []int{1, 63}, []uint64{1, 1<<63 - 1}},
		{1<<63 | 7, []int{3, 61}, []uint64{7, 1 << 60}},
		{0xef00cdab, []int{8, 16, 8}, []uint64{0xab, 0xcd, 0xef}},
		{math.MaxUint64, ones(64), slices.Repeat([]uint64{1}, 64)},
	}
	for _, r := range rows {
		if got, e := Unpack(r.w, r.bits); e != api.OK || !slices.Equal(got, r.want) {
			t.Errorf("P1.2: Unpack(%#x, %v): %v, error %d; want %v", r.w, r.bits, got, e, r.want)
		}
	}
}

func TestUnpackRefusesWidths(t *testing.T) {
	for _, bits := range wrongWidths() {
		// A word with all bits set: of both errors that of the widths is named first.
		for _, w := range []uint64{0, math.MaxUint64} {
			if v, e := Unpack(w, bits); len(v) != 0 || e != api.ErrArg {
				t.Errorf("P1.2: Unpack(%#x) with the widths %v: %v, error %d; want ErrArg", w, bits, v, e)
			}
		}
	}
}

func TestUnpackRefusesBitsAbove(t *testing.T) {
	rows := []struct {
		w    uint64
		bits []int
	}{
		{1, nil},
		{1 << 63, nil},
		{2, []int{1}},
		{16, []int{3, 1}},
		{13 | 1<<63, []int{3, 1}},
		{1 << 63, []int{63}},
		{math.MaxUint64, []int{31, 32}},
	}
	for _, r := range rows {
		if v, e := Unpack(r.w, r.bits); len(v) != 0 || e != api.ErrForm {
			t.Errorf("P1.2: Unpack(%#x, %v): %v, error %d; want ErrForm", r.w, r.bits, v, e)
		}
	}
}

// cutWidths: right widths made from a word of noise, 64 together.
func cutWidths(seed uint64) []int {
	var bits []int
	for left := 64; left > 0; seed = seed>>5 | seed<<59 {
		width := min(left, int(seed%32)+1)
		bits = append(bits, width)
		left -= width
	}
	return bits
}

func TestWhatIsPackedIsUnpacked(t *testing.T) {
	words := noise(2000)
	for i, w := range words {
		bits := cutWidths(words[len(words)-1-i])
		v, e := Unpack(w, bits)
		if e != api.OK || len(v) != len(bits) {
			t.Fatalf("P1.2: Unpack(%#x, %v): %v, error %d", w, bits, v, e)
		}
		if back, e := Pack(v, bits); back != w || e != api.OK {
			t.Fatalf("P1.2: Pack(%v, %v): %#x, error %d; want %#x", v, bits, back, e, w)
		}
	}
}

func TestPackedListsStayAsTheyAre(t *testing.T) {
	v := []uint64{5, 1, 77, 78}
	bits := []int{3, 1, 9, 9}
	w, e := Pack(v[:2], bits[:2])
	if e != api.OK {
		t.Fatalf("P1.2: Pack: error %d", e)
	}
	got, e := Unpack(w, bits[:2])
	if e != api.OK || len(got) != 2 {
		t.Fatalf("P1.2: Unpack: %v, error %d", got, e)
	}
	got[0], got[1] = 99, 99
	if !slices.Equal(v, []uint64{5, 1, 77, 78}) || !slices.Equal(bits, []int{3, 1, 9, 9}) {
		t.Errorf("R3: what was handed in was changed: %v, %v", v, bits)
	}
	if again, e := Unpack(w, bits[:2]); e != api.OK || !slices.Equal(again, []uint64{5, 1}) {
		t.Errorf("R3: what was handed out is shared: %v, error %d", again, e)
	}
}

func TestNarrow(t *testing.T) {
	rows := []struct {
		v    int64
		bits int
		want int64
		is   bool
	}{
		{200, 8, -56, false},
		{127, 8, 127, true},
		{128, 8, -128, false},
		{-128, 8, -128, true},
		{-129, 8, 127, false},
		{256, 8, 0, false},
		{0, 1, 0, true},
		{-1, 1, -1, true},
		{1, 1, -1, false},
		{2, 1, 0, false},
		{-2, 1, 0, false},
		{math.MaxInt64, 1, -1, false},
		{3, 3, 3, true},
		{4, 3, -4, false},
		{math.MaxInt32, 32, math.MaxInt32, true},
		{math.MaxInt32 + 1, 32, math.MinInt32, false},
		{math.MaxInt64, 63, -1, false},
		{1 << 62, 63, -1 << 62, false},
		{-1 << 62, 63, -1 << 62, true},
		{1<<62 - 1, 63, 1<<62 - 1, true},
		{math.MaxInt64, 64, math.MaxInt64, true},
		{math.MinInt64, 64, math.MinInt64, true},
		{0, 64, 0, true},
		{5, 0, 0, false},
		{0, 0, 0, false},
		{5, 65, 0, false},
		{0, 65, 0, false},
		{5, -1, 0, false},
		{-5, math.MinInt, 0, false},
		{-5, math.MaxInt, 0, false},
	}
	for _, r := range rows {
		if got, is := Narrow(r.v, r.bits); got != r.want || is != r.is {
			t.Errorf("P1.3: Narrow(%d, %d): %d, %v; want %d, %v", r.v, r.bits, got, is, r.want, r.is)
		}
	}
}

// saysNarrow: P1.3 bit by bit: each bit counts as its power of 2, the highest of them below 0.
func saysNarrow(v int64, bits int) int64 {
	var sum int64
	for i := range bits {
		if v>>i&1 == 0 {
			continue
		}
		if i == bits-1 {
			sum -= 1 << i
		} else {
			sum += 1 << i
		}
	}
	return sum
}

func TestNarrowOfAllWidths(t *testing.T) {
	numbers := edges()
	for _, w := range noise(200) {
		numbers = append(numbers, int64(w), int64(w)>>40)
	}
	for _, v := range numbers {
		for bits := 1; bits <= 64; bits++ {
			want := saysNarrow(v, bits)
			if got, is := Narrow(v, bits); got != want || is != (v == want) {
				t.Fatalf("P1.3: Narrow(%d, %d): %d, %v; want %d", v, bits, got, is, want)
			}
		}
	}
}

func TestOnesAndLog(t *testing.T) {
	rows := []struct {
		w         uint64
		ones, log int
	}{
		{0, 0, -1},
		{1, 1, 0},
		{2, 1, 1},
		{3, 2, 1},
		{5, 2, 2},
		{1<<32 - 1, 32, 31},
		{1 << 32, 1, 32},
		{1 << 63, 1, 63},
		{1<<63 | 1, 2, 63},
		{math.MaxUint64 >> 1, 63, 62},
		{math.MaxUint64, 64, 63},
	}
	for _, r := range rows {
		if got := Ones(r.w); got != r.ones {
			t.Errorf("P1.3: Ones(%#x): %d; want %d", r.w, got, r.ones)
		}
		if got := Log(r.w); got != r.log {
			t.Errorf("P1.3: Log(%#x): %d; want %d", r.w, got, r.log)
		}
	}
}

func TestOnesAndLogOfEachBit(t *testing.T) {
	for i := range 64 {
		bit := uint64(1) << i
		below := bit - 1
		if Ones(bit) != 1 || Ones(bit|below) != i+1 || Ones(^bit) != 63 {
			t.Errorf("P1.3: Ones about the bit %d: %d, %d, %d", i, Ones(bit), Ones(bit|below), Ones(^bit))
		}
		if Log(bit) != i || Log(bit|below) != i || Log(below) != i-1 {
			t.Errorf("P1.3: Log about the bit %d: %d, %d, %d", i, Log(bit), Log(bit|below), Log(below))
		}
	}
}

func TestKey(t *testing.T) {
	const last = math.MaxInt32
	rows := []struct {
		a, b int
		want api.Pair
		is   bool
	}{
		{0, 0, api.Pair{}, true},
		{3, 7, api.Pair{From: 3, To: 7}, true},
		{last, 0, api.Pair{From: last}, true},
		{0, last, api.Pair{To: last}, true},
		{last, last, api.Pair{From: last, To: last}, true},
		{last + 1, 0, api.Pair{}, false},
		{0, last + 1, api.Pair{}, false},
		{7, last + 1, api.Pair{}, false},
		{last + 1, 7, api.Pair{}, false},
		{-1, 7, api.Pair{}, false},
		{7, -1, api.Pair{}, false},
		{-1, -1, api.Pair{}, false},
		{1<<32 + 7, 7, api.Pair{}, false},
		{7, 1<<32 + 7, api.Pair{}, false},
		{math.MaxInt, 0, api.Pair{}, false},
		{0, math.MinInt, api.Pair{}, false},
	}
	for _, r := range rows {
		if got, is := Key(r.a, r.b); got != r.want || is != r.is {
			t.Errorf("P1.3: Key(%d, %d): %v, %v; want %v, %v", r.a, r.b, got, is, r.want, r.is)
		}
	}
}
