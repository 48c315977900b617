package crc

import (
	"bytes"
	"hash/crc32"
	"math"
	"testing"
)

// noise: bytes that look like chance, the same ones each time, from a seed that is not 0.
func noise(n int, seed uint64) []byte {
	out := make([]byte, n)
	for i := range out {
		seed ^= seed << 13
		seed ^= seed >> 7
		seed ^= seed << 17
		out[i] = byte(seed >> 32)
	}
	return out
}

// lengths: how long texts are, about which nothing should turn.
func lengths() []int {
	return []int{0, 1, 2, 3, 4, 5, 7, 8, 9, 15, 16, 17, 31, 32, 33, 63, 64, 65, 255, 256, 257, 4096, 70001}
}

// someSums: sums of which some are those of no text that a test has.
func someSums() []uint32 {
	return []uint32{0, 1, 7, 0x80, 0xff, 0x80000000, 0x7fffffff, 0xedb88320, 0x04c11db7, 0xcbf43926, 0xdebb20e3, math.MaxUint32 - 1, math.MaxUint32}
}

// plainAdd: the chapter's words taken bit by bit: a long division, in which each bit of the text goes in by itself.
func plainAdd(sum uint32, b []byte) uint32 {
	state := sum ^ 0xffffffff
	for i := range 8 * len(b) {
		bit := uint32(b[i/8]>>(i%8)) & 1
		odd := (state^bit)&1 == 1
		state /= 2
		if odd {
			state ^= 0xedb88320
		}
	}
	return state ^ 0xffffffff
}

func TestExamples(t *testing.T) {
	if got := Sum([]byte("123456789")); got != 0xcbf43926 {
		t.Errorf("P4.1: Sum of 123456789: %08x; want cbf43926", got)
	}
	if got := Sum([]byte{}); got != 0 {
		t.Errorf("P4.1: Sum of nothing: %08x; want 0", got)
	}
}

func TestKnownSums(t *testing.T) {
	rows := []struct {
		what string
		b    []byte
		want uint32
	}{
		{"nil", nil, 0},
		{"no bytes", []byte{}, 0},
		{"00", []byte{0}, 0xd202ef8d},
		{"01", []byte{1}, 0xa505df1b},
		{"80", []byte{0x80}, 0x3fba6cad},
		{"ff", []byte{0xff}, 0xff000000},
		{"ff ff", []byte{0xff, 0xff}, 0xffff0000},
		{"three bytes ff", bytes.Repeat([]byte{0xff}, 3), 0xffffff00},
		{"four bytes ff", bytes.Repeat([]byte{0xff}, 4), 0xffffffff},
		{"00 00", []byte{0, 0}, 0x41d912ff},
		{"four noughts", make([]byte, 4), 0x2144df1c},
		{"32 noughts", make([]byte, 32), 0x190a55ad},
		{"32 bytes ff", bytes.Repeat([]byte{0xff}, 32), 0xff6cab0b},
		{"a", []byte("a"), 0xe8b7be43},
		{"abc", []byte("abc"), 0x352441c2},
		{"a line", []byte("The quick brown fox jumps over the lazy dog"), 0x414fa339},
	}
	for _, row := range rows {
		if got := Sum(row.b); got != row.want {
			t.Errorf("P4.1: Sum of %s: %08x; want %08x", row.what, got, row.want)
		}
	}
}

// wantSum: Sum of a text is what the plain words and the library say.
func wantSum(t *testing.T, what string, b []byte) {
	t.Helper()
	got, plain, library := Sum(b), plainAdd(0, b), crc32.ChecksumIEEE(b)
	if got != plain || got != library {
		t.Errorf("P4.1: Sum of %s, %d bytes: %08x; want %08x (the library: %08x)", what, len(b), got, plain, library)
	}
}

func TestSumOfEachByte(t *testing.T) {
	var all []byte
	seen := map[uint32]int{}
	for v := range 256 {
		wantSum(t, "one byte", []byte{byte(v)})
		wantSum(t, "a byte between noughts", []byte{0, byte(v), 0})
		if other, is := seen[Sum([]byte{byte(v)})]; is {
			t.Errorf("P4.1: the bytes %02x and %02x have one sum", other, v)
		}
		seen[Sum([]byte{byte(v)})] = v
		all = append(all, byte(v))
		wantSum(t, "bytes of each value", all)
	}
}

func TestSumOfSomeLengths(t *testing.T) {
	for _, n := range lengths() {
		wantSum(t, "noughts", make([]byte, n))
		wantSum(t, "bytes ff", bytes.Repeat([]byte{0xff}, n))
		for seed := range uint64(4) {
			wantSum(t, "noise", noise(n, seed+1))
		}
	}
}

func TestNoughtsCount(t *testing.T) {
	seen := map[uint32]int{}
	for n := range 300 {
		got := Sum(make([]byte, n))
		if other, is := seen[got]; is {
			t.Errorf("P4.1: %d noughts and %d noughts have one sum, %08x", other, n, got)
		}
		seen[got] = n
	}
}

func TestAddToAnySum(t *testing.T) {
	for _, sum := range someSums() {
		for _, n := range lengths() {
			for _, b := range [][]byte{make([]byte, n), bytes.Repeat([]byte{0xff}, n), noise(n, uint64(n)+1)} {
				got, plain, library := Add(sum, b), plainAdd(sum, b), crc32.Update(sum, crc32.IEEETable, b)
				if got != plain || got != library {
					t.Errorf("P4.1: Add to %08x of %d bytes: %08x; want %08x (the library: %08x)", sum, n, got, plain, library)
				}
			}
		}
	}
}

func TestAddOfNothing(t *testing.T) {
	for _, sum := range someSums() {
		if got := Add(sum, nil); got != sum {
			t.Errorf("P4.1: Add to %08x of nil: %08x; want it", sum, got)
		}
		if got := Add(sum, []byte{}); got != sum {
			t.Errorf("P4.1: Add to %08x of no bytes: %08x; want it", sum, got)
		}
	}
}

func TestAddToNothing(t *testing.T) {
	for _, n := range lengths() {
		b := noise(n, 5)
		if got, want := Add(Sum(nil), b), Sum(b); got != want {
			t.Errorf("P4.1: Add to the sum of nothing, of %d bytes: %08x; want their sum, %08x", n, got, want)
		}
	}
}

func TestTwoPartsAreTheWhole(t *testing.T) {
	for _, b := range [][]byte{[]byte("123456789"), make([]byte, 40), bytes.Repeat([]byte{0xff}, 40), noise(300, 3)} {
		want := crc32.ChecksumIEEE(b)
		for cut := range len(b) + 1 {
			if got := Add(Sum(b[:cut]), b[cut:]); got != want {
				t.Errorf("P4.1: %d bytes cut behind %d: %08x; want the sum of the whole, %08x", len(b), cut, got, want)
			}
		}
		sum := Sum(nil)
		for _, x := range b {
			sum = Add(sum, []byte{x})
		}
		if sum != want {
			t.Errorf("P4.1: %d bytes added one by one: %08x; want the sum of the whole, %08x", len(b), sum, want)
		}
	}
}

func TestThreePartsAreTheWhole(t *testing.T) {
	b := noise(60, 11)
	for _, sum := range someSums() {
		want := plainAdd(sum, b)
		for first := range len(b) + 1 {
			for second := first; second <= len(b); second += 7 {
				got := Add(Add(Add(sum, b[:first]), b[first:second]), b[second:])
				if got != want {
					t.Errorf("P4.1: to %08x, cut behind %d and %d: %08x; want %08x", sum, first, second, got, want)
				}
			}
		}
	}
}

func TestWhatIsHandedInStays(t *testing.T) {
	for _, n := range lengths() {
		room := noise(n+40, 13)
		was := bytes.Clone(room)
		b := room[:n]
		first := Sum(b)
		added := Add(7, b)
		if !bytes.Equal(room, was) {
			t.Errorf("R3: Sum or Add changed the %d bytes that they were handed, or those behind", n)
		}
		for i := range room[n:] {
			room[n+i] ^= 0xff
		}
		if Sum(b) != first || Add(7, b) != added {
			t.Errorf("P4.1: a sum of %d bytes hangs on what is behind them", n)
		}
	}
}

func TestAskedTwice(t *testing.T) {
	b := noise(100, 17)
	sum, added := Sum(b), Add(9, b)
	Sum(noise(50, 19))
	Add(math.MaxUint32, noise(50, 23))
	if Sum(b) != sum || Add(9, b) != added {
		t.Error("R2: a sum hangs on what was asked before")
	}
}

// turned: a copy of a text in which the bits of a pattern are turned, the pattern's lowest one at that bit of the text.
func turned(b []byte, at int, pattern uint32) []byte {
	out := bytes.Clone(b)
	for k := range 32 {
		if pattern>>k&1 == 1 {
			out[(at+k)/8] ^= 1 << ((at + k) % 8)
		}
	}
	return out
}

// places: at how many bits of a text 32 neighbouring ones begin.
func places(b []byte) int {
	return 8*len(b) - 31
}

// patterns: ways to turn some of 32 bits, among them what a sum can be blind to if its polynomial is another.
func patterns() []uint32 {
	out := []uint32{3, 0xff, 0x101, 0xffff, 0x80000001, 0xc0000003, 0x80808080, 0x01010101, 0xaaaaaaaa, 0x55555555, math.MaxUint32, 0xedb88320, 0x04c11db7, 0xdb710641, 0x82f63b78}
	for k := range 32 {
		out = append(out, 1<<k, ^uint32(1<<k))
	}
	b := noise(400, 29)
	for i := 0; i < len(b); i += 4 {
		out = append(out, uint32(b[i])<<24|uint32(b[i+1])<<16|uint32(b[i+2])<<8|uint32(b[i+3])|1)
	}
	return out
}

func TestTurnedBitsAreTold(t *testing.T) {
	for _, b := range [][]byte{[]byte("a few bytes"), make([]byte, 4), make([]byte, 20), bytes.Repeat([]byte{0xff}, 20), noise(50, 31)} {
		want := Sum(b)
		for at := range places(b) {
			for _, p := range patterns() {
				if Sum(turned(b, at, p)) == want {
					t.Errorf("P4.1: %d bytes, from bit %d turned by %08x: the same sum", len(b), at, p)
				}
			}
		}
	}
}

// independent: no choice of some of these words, joined by ^, is 0.
func independent(words []uint32) bool {
	var steps [32]uint32
	for _, w := range words {
		for k := 31; k >= 0 && w != 0; k-- {
			if w>>k&1 == 0 {
				continue
			}
			if steps[k] == 0 {
				steps[k] = w
				break
			}
			w ^= steps[k]
		}
		if w == 0 {
			return false
		}
	}
	return true
}

// What turned bits do to a sum is what each of them does, joined by ^; if no choice of 32 such words makes 0, then no pattern of 32 bits goes by untold, though only 32 of them were tried.
func TestAllPatternsAreTold(t *testing.T) {
	for _, b := range [][]byte{make([]byte, 64), noise(64, 37)} {
		plain := Sum(b)
		for at := range places(b) {
			words := make([]uint32, 32)
			for k := range words {
				words[k] = Sum(turned(b, at, 1<<k)) ^ plain
			}
			if !independent(words) {
				t.Errorf("P4.1: %d bytes: of the 32 bits from bit %d some can be turned without another sum", len(b), at)
			}
			for _, p := range patterns() {
				want := plain
				for k, w := range words {
					if p>>k&1 == 1 {
						want ^= w
					}
				}
				if got := Sum(turned(b, at, p)); got != want {
					t.Fatalf("P4.1: %d bytes, from bit %d turned by %08x: %08x; want %08x, as each bit by itself says", len(b), at, p, got, want)
				}
			}
		}
	}
}
