package code

import (
	"bytes"
	"encoding/binary"
	"math"
	"testing"

	"hansom/api"
)

// nine: as many bytes, each of which says that more follow.
func nine(last ...byte) []byte {
	return append(bytes.Repeat([]byte{0xff}, 9), last...)
}

// noise: bytes that look like chance, the same ones each time, from a seed that is not 0.
func noise(n int, seed uint64) []byte {
	out := make([]byte, n)
	for i := range out {
		seed ^= seed << 13
		seed ^= seed >> 7
		seed ^= seed << 17
		out[i] = byte(seed >> 32)
	}
	return out
}

// numRows: numbers and their bytes, with the edges at which they grow by one byte.
var numRows = []struct {
	v uint64
	b []byte
}{
	{0, []byte{0}},
	{1, []byte{1}},
	{2, []byte{2}},
	{127, []byte{0x7f}},
	{128, []byte{0x80, 1}},
	{129, []byte{0x81, 1}},
	{255, []byte{0xff, 1}},
	{256, []byte{0x80, 2}},
	{300, []byte{0xac, 2}},
	{1<<14 - 1, []byte{0xff, 0x7f}},
	{1 << 14, []byte{0x80, 0x80, 1}},
	{1<<21 - 1, []byte{0xff, 0xff, 0x7f}},
	{1 << 21, []byte{0x80, 0x80, 0x80, 1}},
	{1 << 32, []byte{0x80, 0x80, 0x80, 0x80, 0x10}},
	{1<<63 - 1, []byte{0xff, 0xff, 0xff, 0xff, 0xff, 0xff, 0xff, 0xff, 0x7f}},
	{1 << 63, []byte{0x80, 0x80, 0x80, 0x80, 0x80, 0x80, 0x80, 0x80, 0x80, 1}},
	{math.MaxUint64 - 1, []byte{0xfe, 0xff, 0xff, 0xff, 0xff, 0xff, 0xff, 0xff, 0xff, 1}},
	{math.MaxUint64, nine(1)},
}

var intRows = []struct {
	v int64
	b []byte
}{
	{0, []byte{0}},
	{-1, []byte{1}},
	{1, []byte{2}},
	{-2, []byte{3}},
	{2, []byte{4}},
	{63, []byte{0x7e}},
	{-64, []byte{0x7f}},
	{64, []byte{0x80, 1}},
	{-65, []byte{0x81, 1}},
	{150, []byte{0xac, 2}},
	{1 << 62, []byte{0x80, 0x80, 0x80, 0x80, 0x80, 0x80, 0x80, 0x80, 0x80, 1}},
	{math.MaxInt64, []byte{0xfe, 0xff, 0xff, 0xff, 0xff, 0xff, 0xff, 0xff, 0xff, 1}},
	{math.MinInt64, nine(1)},
	{math.MinInt64 + 1, []byte{0xfd, 0xff, 0xff, 0xff, 0xff, 0xff, 0xff, 0xff, 0xff, 1}},
}

func TestNumIsSevenBitsAByte(t *testing.T) {
	for _, row := range numRows {
		if got := Num(row.v); !bytes.Equal(got, row.b) {
			t.Errorf("P3.1: Num(%d): %x; want %x", row.v, got, row.b)
		}
		r := New(row.b)
		if got := r.Num(); got != row.v || r.Err() != api.OK || r.Left() != 0 || r.End() != api.OK {
			t.Errorf("P3.2: Num of %x: %d, error %d, left %d; want %d, OK, 0", row.b, got, r.Err(), r.Left(), row.v)
		}
	}
}

func TestIntHasItsSignBelow(t *testing.T) {
	for _, row := range intRows {
		if got := Int(row.v); !bytes.Equal(got, row.b) {
			t.Errorf("P3.1: Int(%d): %x; want %x", row.v, got, row.b)
		}
		r := New(row.b)
		if got := r.Int(); got != row.v || r.Err() != api.OK || r.Left() != 0 || r.End() != api.OK {
			t.Errorf("P3.2: Int of %x: %d, error %d, left %d; want %d, OK, 0", row.b, got, r.Err(), r.Left(), row.v)
		}
	}
}

func TestNumbersOfAllSizes(t *testing.T) {
	for shift := range 64 {
		for _, v := range []uint64{1<<shift - 1, 1 << shift, 1<<shift + 1, 0xaaaaaaaaaaaaaaaa >> shift} {
			if got, want := Num(v), binary.AppendUvarint(nil, v); !bytes.Equal(got, want) {
				t.Errorf("P3.1: Num(%d): %x; want %x", v, got, want)
			}
			for _, s := range []int64{int64(v), -int64(v)} {
				got, want := Int(s), binary.AppendVarint(nil, s)
				if !bytes.Equal(got, want) {
					t.Errorf("P3.1: Int(%d): %x; want %x", s, got, want)
				}
				if r := New(append(got, Num(v)...)); r.Int() != s || r.Num() != v || r.End() != api.OK {
					t.Errorf("P3.2: Int of %d, Num of %d do not come back: error %d", s, v, r.Err())
				}
			}
		}
	}
}

func TestTextIsItsLengthAndItsBytes(t *testing.T) {
	for _, n := range []int{0, 1, 2, 127, 128, 129, 300, 16384, 70000} {
		b := noise(n, 7)
		want := append(binary.AppendUvarint(nil, uint64(n)), b...)
		if got := Text(b); !bytes.Equal(got, want) {
			t.Errorf("P3.1: Text of %d bytes: %d bytes; want %d", n, len(got), len(want))
		}
		for _, most := range []int{n, n + 1, math.MaxInt} {
			r := New(append(want, 9))
			if got := r.Text(most); !bytes.Equal(got, b) || r.Err() != api.OK || r.Left() != 1 || r.Num() != 9 {
				t.Errorf("P3.2: Text(%d) of %d bytes: %d bytes, error %d", most, n, len(got), r.Err())
			}
		}
	}
	if got := Text(nil); !bytes.Equal(got, []byte{0}) {
		t.Errorf("P3.1: Text of nothing: %x; want 00", got)
	}
	if got := Text([]byte{0, 0xff}); !bytes.Equal(got, []byte{2, 0, 0xff}) {
		t.Errorf("P3.1: Text of 00 ff: %x; want 02 00 ff", got)
	}
}

// forms: the four ways to read one thing, each with whether it answers its zero value.
var forms = []struct {
	name string
	zero func(*Reader) bool
}{
	{"Num", func(r *Reader) bool { return r.Num() == 0 }},
	{"Int", func(r *Reader) bool { return r.Int() == 0 }},
	{"Small", func(r *Reader) bool { return r.Small(math.MaxInt) == 0 }},
	{"Text", func(r *Reader) bool { return len(r.Text(math.MaxInt)) == 0 }},
}

// wantFault: the reader answers zero values, has this fault, and stays where so many bytes are left, whatever is read.
func wantFault(t *testing.T, what string, r *Reader, e api.Errno, left int) {
	t.Helper()
	for round := range 2 {
		if r.Err() != e || r.End() != e || r.Left() != left {
			t.Errorf("P3.3: %s, round %d: Err %d, End %d, Left %d; want %d, %d, %d", what, round, r.Err(), r.End(), r.Left(), e, e, left)
		}
		for _, f := range forms {
			if !f.zero(r) {
				t.Errorf("P3.3: %s, round %d: %s behind the fault is not zero", what, round, f.name)
			}
		}
	}
}

func TestNumbersAtFault(t *testing.T) {
	rows := []struct {
		what string
		b    []byte
		e    api.Errno
	}{
		{"nothing", nil, api.ErrShort},
		{"no bytes", []byte{}, api.ErrShort},
		{"a first byte alone", []byte{0x80}, api.ErrShort},
		{"two bytes, and more should follow", []byte{0xff, 0xff}, api.ErrShort},
		{"nine bytes, and more should follow", nine(), api.ErrShort},
		{"nine bytes without a bit, and more should follow", bytes.Repeat([]byte{0x80}, 9), api.ErrShort},
		{"a last byte 0", []byte{0x80, 0}, api.ErrForm},
		{"a last byte 0, and one behind it", []byte{0x80, 0, 1}, api.ErrForm},
		{"a last byte 0 behind bits", []byte{0xff, 0}, api.ErrForm},
		{"a third byte 0", []byte{0xff, 0xff, 0}, api.ErrForm},
		{"a ninth byte 0", append(bytes.Repeat([]byte{0xff}, 8), 0), api.ErrForm},
		{"a tenth byte 0", nine(0), api.ErrForm},
		{"a tenth byte 0, and one behind it", nine(0, 1), api.ErrForm},
		{"a tenth byte 2", nine(2), api.ErrForm},
		{"a tenth byte 2, and bytes behind it", nine(2, 0, 1, 2), api.ErrForm},
		{"a tenth byte 3", nine(3), api.ErrForm},
		{"a tenth byte 7f", nine(0x7f), api.ErrForm},
		{"a tenth byte 80", nine(0x80), api.ErrForm},
		{"a tenth byte 81", nine(0x81), api.ErrForm},
		{"a tenth byte 80, and an end behind it", nine(0x80, 1), api.ErrForm},
		{"a tenth byte 81, and a 0 behind it", nine(0x81, 0), api.ErrForm},
		{"a tenth byte ff, and bytes that do not end", nine(0xff, 0xff, 0xff, 0xff), api.ErrForm},
		{"ten bytes 80", bytes.Repeat([]byte{0x80}, 10), api.ErrForm},
		{"a hundred bytes 80", bytes.Repeat([]byte{0x80}, 100), api.ErrForm},
	}
	for _, row := range rows {
		for _, f := range forms {
			r := New(row.b)
			if !f.zero(r) || r.Err() != row.e {
				t.Errorf("P3.2: %s of %s: error %d; want %d, and zero", f.name, row.what, r.Err(), row.e)
			}
			wantFault(t, f.name+" of "+row.what, r, row.e, len(row.b))
		}
	}
}

func TestFaultBehindRightThings(t *testing.T) {
	for _, f := range forms {
		r := New([]byte{5, 0xac, 2, 0x80, 0, 7})
		if r.Num() != 5 || r.Num() != 300 || r.Left() != 3 || !f.zero(r) {
			t.Errorf("P3.2: %s of 80 00 behind two numbers", f.name)
		}
		wantFault(t, f.name+" of 80 00 behind two numbers", r, api.ErrForm, 3)
		r = New([]byte{1, 'a', 0x80})
		if string(r.Text(1)) != "a" || r.Left() != 1 || !f.zero(r) {
			t.Errorf("P3.2: %s of 80 behind a text", f.name)
		}
		wantFault(t, f.name+" of 80 behind a text", r, api.ErrShort, 1)
	}
}

func TestSmall(t *testing.T) {
	rows := []struct {
		v    uint64
		most int
		e    api.Errno
	}{
		{0, 0, api.OK},
		{1, 0, api.ErrForm},
		{0, -1, api.OK},
		{1, -1, api.ErrForm},
		{0, math.MinInt, api.OK},
		{1, math.MinInt, api.ErrForm},
		{math.MaxUint64, -1, api.ErrForm},
		{1, 1, api.OK},
		{2, 1, api.ErrForm},
		{127, 127, api.OK},
		{128, 127, api.ErrForm},
		{128, 128, api.OK},
		{5, 1000, api.OK},
		{1<<31 - 1, 1<<31 - 1, api.OK},
		{1 << 31, 1<<31 - 1, api.ErrForm},
		{1 << 32, 1 << 31, api.ErrForm},
		{math.MaxInt, math.MaxInt, api.OK},
		{math.MaxInt + 1, math.MaxInt, api.ErrForm},
		{math.MaxUint64, math.MaxInt, api.ErrForm},
	}
	for _, row := range rows {
		b := append(Num(row.v), 9)
		r := New(b)
		got := r.Small(row.most)
		if row.e != api.OK {
			if got != 0 || r.Err() != row.e {
				t.Errorf("P3.2: Small(%d) of %d: %d, error %d; want 0, %d", row.most, row.v, got, r.Err(), row.e)
			}
			wantFault(t, "Small above its most", r, row.e, len(b))
			continue
		}
		if got != int(row.v) || r.Err() != api.OK || r.Left() != 1 || r.Small(9) != 9 || r.End() != api.OK {
			t.Errorf("P3.2: Small(%d) of %d: %d, error %d; want it, OK", row.most, row.v, got, r.Err())
		}
	}
}

func TestTextAtFault(t *testing.T) {
	rows := []struct {
		what string
		b    []byte
		most int
		e    api.Errno
	}{
		{"one more than most", []byte{3, 'a', 'b', 'c'}, 2, api.ErrForm},
		{"one, and most 0", []byte{1, 'a'}, 0, api.ErrForm},
		{"one, and most below 0", []byte{1, 'a'}, -1, api.ErrForm},
		{"one, and the least most", []byte{1, 'a'}, math.MinInt, api.ErrForm},
		{"one byte fewer", []byte{3, 'a', 'b'}, 3, api.ErrShort},
		{"a length alone", []byte{1}, 9, api.ErrShort},
		{"above most, and fewer bytes", []byte{9, 'a'}, 8, api.ErrForm},
		{"a length of two bytes, fewer bytes", append([]byte{0xac, 2}, make([]byte, 299)...), 300, api.ErrShort},
		{"a length of two bytes, above most", append([]byte{0xac, 2}, make([]byte, 300)...), 299, api.ErrForm},
		{"the greatest length", nine(1, 'a'), math.MaxInt, api.ErrForm},
		{"a length just above the greatest most", append(Num(math.MaxInt+1), 'a'), math.MaxInt, api.ErrForm},
		{"a length just at the greatest most", append(Num(math.MaxInt), 'a'), math.MaxInt, api.ErrShort},
	}
	for _, row := range rows {
		for _, ahead := range [][]byte{nil, {7}, {0xac, 2}} {
			r := New(append(bytes.Clone(ahead), row.b...))
			if ahead != nil {
				r.Num()
			}
			if got := r.Text(row.most); got != nil || r.Err() != row.e {
				t.Errorf("P3.2: Text(%d) of %s: %x, error %d; want nil, %d", row.most, row.what, got, r.Err(), row.e)
			}
			wantFault(t, "Text of "+row.what, r, row.e, len(row.b))
		}
	}
	for _, most := range []int{0, -1, math.MinInt, 5} {
		r := New([]byte{0, 4})
		if got := r.Text(most); len(got) != 0 || r.Err() != api.OK || r.Left() != 1 || r.Small(4) != 4 || r.End() != api.OK {
			t.Errorf("P3.2: Text(%d) of an empty one: %x, error %d; want nothing, OK", most, got, r.Err())
		}
	}
}

func TestFirstFaultStays(t *testing.T) {
	r := New([]byte{5, 6})
	if r.Small(4) != 0 || r.Err() != api.ErrForm {
		t.Errorf("P3.2: Small(4) of 5: error %d; want ErrForm", r.Err())
	}
	if r.Small(9) != 0 || r.Text(9) != nil || r.Num() != 0 {
		t.Error("P3.3: what would be right is read behind a fault")
	}
	wantFault(t, "Small, then what would be right", r, api.ErrForm, 2)
	r = New([]byte{5, 6})
	if r.Text(9) != nil || r.Small(4) != 0 {
		t.Error("P3.3: a text of which bytes are not there, then Small above most: not zero")
	}
	wantFault(t, "a text of which bytes are not there, then Small", r, api.ErrShort, 2)
}

func TestEnd(t *testing.T) {
	r := New([]byte{1, 2})
	for left := 2; left > 0; left-- {
		if r.End() != api.ErrForm || r.End() != api.ErrForm || r.Err() != api.OK || r.Left() != left {
			t.Errorf("P3.3: End with bytes left: %d, Err %d, Left %d; want ErrForm, OK, %d", r.End(), r.Err(), r.Left(), left)
		}
		if got := r.Num(); got != uint64(3-left) {
			t.Errorf("P3.3: Num behind End: %d; want %d", got, 3-left)
		}
	}
	if r.End() != api.OK || r.Err() != api.OK || r.Left() != 0 {
		t.Errorf("P3.3: End with no bytes left: %d, Err %d; want OK, OK", r.End(), r.Err())
	}
	r.Num()
	wantFault(t, "Num at the end", r, api.ErrShort, 0)
	for _, b := range [][]byte{nil, {}} {
		if r := New(b); r == nil || r.Err() != api.OK || r.End() != api.OK || r.Left() != 0 {
			t.Errorf("P3.3: a reader of nothing: Err %d, End %d, Left %d; want OK, OK, 0", r.Err(), r.End(), r.Left())
		}
	}
}

func TestNoReader(t *testing.T) {
	var none *Reader
	wantFault(t, "nil", none, api.ErrNil, 0)
	if none.Text(-1) != nil || none.Small(-1) != 0 {
		t.Error("P3.3: nil, most below 0: not zero")
	}
	var zero Reader
	if zero.Left() != 0 || zero.Err() != api.OK || zero.End() != api.OK {
		t.Errorf("R1: a reader that New has not made: Err %d, End %d; want OK, OK", zero.Err(), zero.End())
	}
	for _, f := range forms {
		var zero Reader
		if !f.zero(&zero) {
			t.Errorf("R1: a reader that New has not made: %s is not zero", f.name)
		}
		wantFault(t, "a reader that New has not made", &zero, api.ErrShort, 0)
	}
}

func TestNothingIsShared(t *testing.T) {
	room := []byte{2, 'a', 'b', 2, 'c', 'd', 9}
	b := room[:6]
	r := New(b)
	clear(room)
	first := r.Text(2)
	if string(first) != "ab" {
		t.Errorf("P3.2: what was handed in to New was changed later: %q; want ab", first)
	}
	first = append(first, 0xff, 0xff, 0xff, 0xff)
	clear(first)
	second := r.Text(2)
	if string(second) != "cd" || r.End() != api.OK {
		t.Errorf("P3.2: what Text answered was changed later: the next one is %q; want cd", second)
	}
	clear(first)
	if string(second) != "cd" {
		t.Errorf("R3: two texts share memory: %q; want cd", second)
	}
	room = []byte{'x', 'y', 'z'}
	text := Text(room[:2])
	if string(room) != "xyz" {
		t.Errorf("R3: Text changed what it was handed: %q; want xyz", room)
	}
	room[0] = 0
	if !bytes.Equal(text, []byte{2, 'x', 'y'}) {
		t.Errorf("R3: Text shares memory with what it was handed: %x", text)
	}
	one, two := Num(300), Num(300)
	one = append(one, 1, 2, 3)
	clear(one)
	if !bytes.Equal(two, []byte{0xac, 2}) {
		t.Errorf("R3: two answers of Num share memory: %x", two)
	}
	room = []byte{1, 2, 3, 'a', 'b', 'c', 4}
	r = New(room[:6])
	if r.Num() != 1 || r.Int() != 1 || string(r.Text(3)) != "abc" || r.End() != api.OK {
		t.Errorf("P3.2: a reader of a piece: error %d", r.Err())
	}
	if !bytes.Equal(room, []byte{1, 2, 3, 'a', 'b', 'c', 4}) {
		t.Errorf("R3: reading changed what was handed in: %x", room)
	}
}

// written: so many things in an order that the noise says, and what reads each of them and holds it against what was written.
func written(choice []byte) ([]byte, []func(*Reader) bool) {
	var all []byte
	var checks []func(*Reader) bool
	for i, c := range choice {
		v := binary.LittleEndian.Uint64(noise(8, uint64(i)+1)) >> (c >> 2)
		switch c & 3 {
		case 0:
			all = append(all, Num(v)...)
			checks = append(checks, func(r *Reader) bool { return r.Num() == v })
		case 1:
			s := int64(v<<1) >> 1
			all = append(all, Int(s)...)
			checks = append(checks, func(r *Reader) bool { return r.Int() == s })
		case 2:
			n := int(v & math.MaxInt)
			all = append(all, Num(uint64(n))...)
			checks = append(checks, func(r *Reader) bool { return r.Small(n) == n })
		default:
			text := noise(int(v%200), v|1)
			all = append(all, Text(text)...)
			checks = append(checks, func(r *Reader) bool { return bytes.Equal(r.Text(200), text) })
		}
	}
	return all, checks
}

func TestOneBehindTheOther(t *testing.T) {
	for seed := range uint64(50) {
		all, checks := written(noise(60, seed+1))
		r := New(all)
		for i, right := range checks {
			if !right(r) || r.Err() != api.OK {
				t.Fatalf("P3.2: seed %d, the thing %d is not what was written: error %d", seed, i, r.Err())
			}
		}
		if r.End() != api.OK || r.Left() != 0 {
			t.Errorf("P3.3: seed %d: End %d, Left %d; want OK, 0", seed, r.End(), r.Left())
		}
	}
}

func TestLeftGoesDownByWhatWasRead(t *testing.T) {
	b := bytes.Join([][]byte{Num(300), Int(-1), Text([]byte("abc")), Num(math.MaxUint64), Num(0)}, nil)
	r := New(b)
	left := len(b)
	for i, size := range []int{2, 1, 4, 10, 1} {
		if r.Left() != left {
			t.Errorf("P3.3: ahead of the thing %d: Left %d; want %d", i, r.Left(), left)
		}
		if i == 2 {
			r.Text(3)
		} else {
			r.Num()
		}
		left -= size
	}
	if r.Left() != 0 || r.End() != api.OK {
		t.Errorf("P3.3: at the end: Left %d, error %d; want 0, OK", r.Left(), r.End())
	}
}

// plainNum: the chapter's words on a number, read one by one: where it ends, whether it fits, whether it is the shortest.
func plainNum(b []byte) (uint64, int, api.Errno) {
	end := 0
	for end < len(b) && end < 9 && b[end] >= 0x80 {
		end++
	}
	if end == len(b) {
		return 0, 0, api.ErrShort
	}
	if end == 9 && b[9] > 1 || end > 0 && b[end] == 0 {
		return 0, 0, api.ErrForm
	}
	v := uint64(0)
	for i := end; i >= 0; i-- {
		v = v*128 + uint64(b[i]%128)
	}
	return v, end + 1, api.OK
}

func TestAnyBytesAgainstThePlainWords(t *testing.T) {
	var rows [][]byte
	for a := range 256 {
		rows = append(rows, []byte{byte(a)})
		for b := range 256 {
			rows = append(rows, []byte{byte(a), byte(b)}, []byte{0xff, byte(a), byte(b)}, nine(byte(a), byte(b)))
		}
	}
	for seed := range uint64(20000) {
		b := noise(int(seed%13), seed+1)
		for i := range b {
			// With most of them marked, long numbers are met too.
			if seed>>uint(i)%5 != 0 {
				b[i] |= 0x80
			}
		}
		rows = append(rows, b)
	}
	for _, b := range rows {
		v, size, e := plainNum(b)
		r := New(b)
		if got := r.Num(); got != v || r.Err() != e || r.Left() != len(b)-size {
			t.Fatalf("P3.2: Num of %x: %d, error %d, left %d; want %d, %d, %d", b, got, r.Err(), r.Left(), v, e, len(b)-size)
		}
		if e == api.OK && !bytes.Equal(Num(v), b[:size]) {
			t.Fatalf("P3.2: %x is read as %d, which is written as %x", b[:size], v, Num(v))
		}
		i := New(b)
		if s := i.Int(); i.Err() != e || i.Left() != len(b)-size || e == api.OK && !bytes.Equal(Int(s), b[:size]) {
			t.Fatalf("P3.2: Int of %x: %d, error %d, left %d", b, s, i.Err(), i.Left())
		}
	}
}

func TestExample(t *testing.T) {
	if got := Num(300); !bytes.Equal(got, []byte{0xac, 2}) {
		t.Errorf("P3.1: Num(300): %x; want ac 02", got)
	}
	if got := Int(-1); !bytes.Equal(got, []byte{1}) {
		t.Errorf("P3.1: Int(-1): %x; want 01", got)
	}
	r := New([]byte{0x80, 0})
	if r.Num() != 0 || r.Err() != api.ErrForm {
		t.Errorf("P3.2: Num of 80 00: error %d; want ErrForm", r.Err())
	}
}
