package frame

import (
	"bytes"
	"encoding/binary"
	"hash/crc32"
	"math"
	"slices"
	"testing"

	"hansom/api"
)

// noise: bytes that look like chance, the same ones each time, from a seed that is not 0.
func noise(n int, seed uint64) []byte {
	out := make([]byte, n)
	for i := range out {
		seed ^= seed << 13
		seed ^= seed >> 7
		seed ^= seed << 17
		out[i] = byte(seed >> 32)
	}
	return out
}

// plain: a frame as the chapter's words have it, whatever length it is to say, by the library.
func plain(says uint32, b []byte) []byte {
	length := binary.LittleEndian.AppendUint32(nil, says)
	sum := crc32.ChecksumIEEE(slices.Concat(length, b))
	return slices.Concat([]byte{0xa5}, length, binary.LittleEndian.AppendUint32(nil, sum), b, []byte{0x5a})
}

// whole: the frame that carries b.
func whole(b []byte) []byte {
	return plain(uint32(len(b)), b)
}

// put: a copy of b in which one byte is another.
func put(b []byte, at int, v byte) []byte {
	out := bytes.Clone(b)
	out[at] = v
	return out
}

// roomy: a copy of b with room behind its end, in which other bytes stand.
func roomy(b []byte) (list, room []byte) {
	room = append(bytes.Clone(b), bytes.Repeat([]byte{0x77}, 40)...)
	return room[:len(b)], room
}

// wantTake: Take has answered this; with an error nothing else.
func wantTake(t *testing.T, what string, b, carried []byte, size int, e api.Errno) {
	t.Helper()
	got, n, is := Take(b)
	if !bytes.Equal(got, carried) || n != size || is != e {
		t.Errorf("P6.1: Take of %s: %d bytes carried, %d in all, error %d; want %d, %d, error %d", what, len(got), n, is, len(carried), size, e)
	}
}

// refused: Take answers an error and nothing else.
func refused(t *testing.T, what string, b []byte, e api.Errno) {
	t.Helper()
	wantTake(t, what, b, nil, 0, e)
}

// wantScan: Scan has answered this.
func wantScan(t *testing.T, what string, b []byte, all [][]byte, size int, e api.Errno) {
	t.Helper()
	got, n, is := Scan(b)
	if !slices.EqualFunc(got, all, bytes.Equal) || n != size || is != e {
		t.Errorf("P6.2: Scan of %s: %d frames, %d bytes, error %d; want %d, %d, error %d", what, len(got), n, is, len(all), size, e)
	}
}

// carriedRows: things that a frame carries, also such that look like a frame's own bytes.
func carriedRows() [][]byte {
	return [][]byte{
		nil,
		{0},
		{1},
		{0x5a},
		{0xa5},
		[]byte("abc"),
		bytes.Repeat([]byte{0}, 20),
		bytes.Repeat([]byte{0x5a}, 20),
		bytes.Repeat([]byte{0xa5}, 20),
		whole([]byte("inner")),
		noise(255, 3),
		noise(256, 5),
		noise(257, 7),
		noise(65535, 9),
		noise(65536, 11),
	}
}

func TestPackIsTheFrame(t *testing.T) {
	// The sums are written out, so that they hang on no code.
	rows := []struct{ b, f []byte }{
		{nil, []byte{0xa5, 0, 0, 0, 0, 0x1c, 0xdf, 0x44, 0x21, 0x5a}},
		{[]byte{}, []byte{0xa5, 0, 0, 0, 0, 0x1c, 0xdf, 0x44, 0x21, 0x5a}},
	}
	for _, row := range rows {
		if f, e := Pack(row.b); e != api.OK || !bytes.Equal(f, row.f) {
			t.Errorf("P6.1: Pack(%x): %x, error %d; want %x, OK", row.b, f, e, row.f)
		}
	}
	for _, b := range carriedRows() {
		if f, e := Pack(b); e != api.OK || !bytes.Equal(f, whole(b)) {
			t.Errorf("P6.1: Pack of %d bytes: %d bytes, error %d; want a5, length, sum, it, 5a", len(b), len(f), e)
		}
	}
}

func TestPackHasAnEnd(t *testing.T) {
	most := noise(api.MaxFrame, 13)
	f, e := Pack(most)
	if e != api.OK || !bytes.Equal(f, whole(most)) {
		t.Fatalf("P6.1: Pack of MaxFrame bytes: %d bytes, error %d; want a frame, OK", len(f), e)
	}
	wantTake(t, "a frame of MaxFrame bytes", f, most, api.MaxFrame+10, api.OK)
	wantTake(t, "a frame of MaxFrame bytes, more behind", append(f, 1), most, api.MaxFrame+10, api.OK)
	for _, n := range []int{api.MaxFrame + 1, 2 * api.MaxFrame} {
		if f, e := Pack(make([]byte, n)); e != api.ErrFull || len(f) != 0 {
			t.Errorf("P6.1: Pack of %d bytes: %d bytes, error %d; want none, ErrFull", n, len(f), e)
		}
	}
}

func TestTakeAnswersWhatWasPacked(t *testing.T) {
	behind := [][]byte{nil, {0}, {9}, {0xa5}, {0x5a}, make([]byte, 30), whole([]byte("next")), noise(30, 15)}
	for _, b := range carriedRows() {
		f, _ := Pack(b)
		for _, more := range behind {
			wantTake(t, "a frame with something behind it", slices.Concat(f, more), b, len(b)+10, api.OK)
		}
	}
}

func TestTakeOfNoBytes(t *testing.T) {
	refused(t, "nil", nil, api.ErrNone)
	refused(t, "no bytes", []byte{}, api.ErrNone)
}

func TestTakeLooksAtTheFirstByte(t *testing.T) {
	f := whole([]byte("abc"))
	for v := range 256 {
		alone, first := []byte{byte(v)}, put(f, 0, byte(v))
		switch v {
		case 0xa5:
			refused(t, "a5 alone", alone, api.ErrShort)
			wantTake(t, "a frame", first, []byte("abc"), 13, api.OK)
		case 0:
			refused(t, "0 alone", alone, api.ErrShort)
			refused(t, "0 with a frame's rest", first, api.ErrShort)
		default:
			refused(t, "another byte alone", alone, api.ErrForm)
			refused(t, "another byte with a frame's rest", first, api.ErrForm)
		}
	}
}

func TestTakeOfNineBytesAndTen(t *testing.T) {
	f, _ := Pack(nil)
	wantTake(t, "the frame of nothing", f, nil, 10, api.OK)
	for n := 1; n < len(f); n++ {
		refused(t, "a beginning of the frame of nothing", f[:n], api.ErrShort)
	}
	// Nine bytes do not tell yet that their length is too great; ten do.
	long := put(f, 4, 0xff)
	refused(t, "nine bytes that say too much", long[:9], api.ErrShort)
	refused(t, "ten bytes that say too much", long, api.ErrForm)
}

func TestTakeLooksAtTheLength(t *testing.T) {
	most := make([]byte, api.MaxFrame)
	f := whole(most)
	refused(t, "MaxFrame said, ten bytes there", f[:10], api.ErrShort)
	refused(t, "MaxFrame said, one byte fewer there", f[:len(f)-1], api.ErrShort)
	wantTake(t, "MaxFrame said, and there", f, most, len(f), api.OK)
	more := append(most, 1)
	for _, says := range []uint32{api.MaxFrame + 1, 1 << 21, 1 << 24, math.MaxInt32, math.MaxInt32 + 1, math.MaxUint32 - 9, math.MaxUint32 - 1, math.MaxUint32} {
		refused(t, "more than MaxFrame said, and all of it there", plain(says, more), api.ErrForm)
		refused(t, "more than MaxFrame said, ten bytes there", plain(says, nil), api.ErrForm)
		refused(t, "more than MaxFrame said, noughts there", append(plain(says, nil)[:5], make([]byte, 20)...), api.ErrForm)
	}
}

func TestTakeOfFewerBytesThanSaid(t *testing.T) {
	for _, b := range [][]byte{{7}, []byte("abc"), noise(300, 17), bytes.Repeat([]byte{0x5a}, 30)} {
		f := whole(b)
		for n := 1; n < len(f); n++ {
			refused(t, "a beginning of a frame", f[:n], api.ErrShort)
		}
	}
}

func TestTakeLooksAtTheEndMark(t *testing.T) {
	for _, b := range [][]byte{nil, {7}, []byte("abc"), noise(300, 19)} {
		f := whole(b)
		for v := range 256 {
			g := put(f, len(f)-1, byte(v))
			for _, torn := range [][]byte{g, append(bytes.Clone(g), 0x5a)} {
				switch v {
				case 0x5a:
					wantTake(t, "a frame", torn, b, len(f), api.OK)
				case 0:
					refused(t, "a frame with a 0 for its end mark", torn, api.ErrShort)
				default:
					refused(t, "a frame with another end mark", torn, api.ErrForm)
				}
			}
		}
	}
}

func TestTakeLooksAtTheSum(t *testing.T) {
	for _, b := range [][]byte{nil, {7}, []byte("abc"), noise(300, 21)} {
		f := whole(b)
		for at := 5; at < len(f)-1; at++ {
			for bit := range 8 {
				refused(t, "a sum or a carried byte with a turned bit", put(f, at, f[at]^1<<bit), api.ErrSum)
			}
		}
	}
}

func TestTheSumHoldsTheLength(t *testing.T) {
	// Each of the two carries only bytes that may stand for an end mark: a turned length is told by the sum alone.
	f := whole(bytes.Repeat([]byte{0x5a}, 6))
	for n := range byte(6) {
		refused(t, "a frame that says less than it carries", put(f, 1, n), api.ErrSum)
	}
	refused(t, "a frame that says more", append(put(f, 1, 7), 0x5a), api.ErrSum)
	// A sum of what is carried alone, without the length, is another one.
	alone := binary.LittleEndian.AppendUint32(nil, crc32.ChecksumIEEE([]byte("abc")))
	refused(t, "a sum without the length", slices.Concat([]byte{0xa5, 3, 0, 0, 0}, alone, []byte("abc"), []byte{0x5a}), api.ErrSum)
	refused(t, "a sum 0 of nothing", []byte{0xa5, 0, 0, 0, 0, 0, 0, 0, 0, 0x5a}, api.ErrSum)
}

func TestTakeAnswersTheErrorNamedFirst(t *testing.T) {
	f := whole([]byte("abc"))
	end := len(f) - 1
	bad := put(f, 6, f[6]^1) // the sum is another one
	rows := []struct {
		what string
		b    []byte
		e    api.Errno
	}{
		{"another first byte, few bytes", []byte{1, 2}, api.ErrForm},
		{"another first byte, noughts behind", []byte{1, 0, 0, 0, 0, 0, 0, 0, 0, 0, 0}, api.ErrForm},
		{"0 first, too great a length", put(put(f, 0, 0), 4, 0xff), api.ErrShort},
		{"0 first, another end mark", put(put(f, 0, 0), end, 1), api.ErrShort},
		{"0 first, another sum", put(bad, 0, 0), api.ErrShort},
		{"noughts alone", make([]byte, 30), api.ErrShort},
		{"few bytes, too great a length", []byte{0xa5, 0xff, 0xff, 0xff, 0xff, 1, 1, 1, 1}, api.ErrShort},
		{"too great a length, fewer bytes than said", put(f, 4, 1), api.ErrForm},
		{"too great a length, a 0 for the end mark", put(put(f, 3, 0x20), end, 0), api.ErrForm},
		{"too great a length, another sum", put(bad, 3, 0x20), api.ErrForm},
		{"fewer bytes than said, another sum", bad[:end], api.ErrShort},
		{"fewer bytes than said, another last byte", put(f[:end], end-1, 1), api.ErrShort},
		{"a 0 for the end mark, another sum", put(bad, end, 0), api.ErrShort},
		{"another end mark, another sum", put(bad, end, 1), api.ErrForm},
		{"another sum, a fault behind", append(bytes.Clone(bad), 1), api.ErrSum},
	}
	for _, row := range rows {
		refused(t, row.what, row.b, row.e)
	}
}

// named: what the chapter's words say of any bytes, in their order.
func named(b []byte) ([]byte, int, api.Errno) {
	if len(b) == 0 {
		return nil, 0, api.ErrNone
	}
	if b[0] != 0xa5 && b[0] != 0 {
		return nil, 0, api.ErrForm
	}
	if b[0] == 0 || len(b) < 10 {
		return nil, 0, api.ErrShort
	}
	says := int64(binary.LittleEndian.Uint32(b[1:]))
	if says > api.MaxFrame {
		return nil, 0, api.ErrForm
	}
	if int64(len(b)) < says+10 || b[says+9] == 0 {
		return nil, 0, api.ErrShort
	}
	if b[says+9] != 0x5a {
		return nil, 0, api.ErrForm
	}
	if !bytes.Equal(b[:says+10], plain(uint32(says), b[9:says+9])) {
		return nil, 0, api.ErrSum
	}
	return b[9 : says+9], int(says) + 10, api.OK
}

func TestTakeOfAnyBytes(t *testing.T) {
	seen := map[api.Errno]int{}
	for i := range uint64(40000) {
		b := noise(int(i%40), i*2+1)
		// Pure noise hardly ever begins as a frame: lay parts of one over it.
		over := whole(noise(int(i/7%9), i+3))
		copy(b, over[:min(len(b), int(i/3%24), len(over))])
		if len(b) > 0 && i%5 == 0 {
			b[int(i/11)%len(b)] = []byte{0, 0xa5, 0x5a, 1}[i/5%4]
		}
		carried, size, e := named(b)
		seen[e]++
		got, n, is := Take(b)
		if !bytes.Equal(got, carried) || n != size || is != e {
			t.Fatalf("P6.1: Take(%x): %x, %d, error %d; want %x, %d, error %d", b, got, n, is, carried, size, e)
		}
	}
	for _, e := range []api.Errno{api.OK, api.ErrNone, api.ErrForm, api.ErrShort, api.ErrSum} {
		if seen[e] < 20 {
			t.Errorf("P6.1: only %d of the bytes had to answer %d", seen[e], e)
		}
	}
}

// frames: several frames one behind the other, what they carry, and how many bytes the first n of them have, for each n.
func frames() (all []byte, carried [][]byte, ends []int) {
	carried = [][]byte{[]byte("a"), nil, []byte("bcd"), {0}, bytes.Repeat([]byte{0xa5, 0x5a}, 8), nil, noise(300, 23)}
	ends = []int{0}
	for _, b := range carried {
		all = append(all, whole(b)...)
		ends = append(ends, len(all))
	}
	return all, carried, ends
}

func TestScanOfNothing(t *testing.T) {
	wantScan(t, "nil", nil, nil, 0, api.OK)
	wantScan(t, "no bytes", []byte{}, nil, 0, api.OK)
}

func TestScanOfWholeFrames(t *testing.T) {
	all, carried, ends := frames()
	for n, end := range ends {
		wantScan(t, "whole frames alone", all[:end], carried[:n], end, api.OK)
	}
	for _, b := range carriedRows() {
		f := whole(b)
		wantScan(t, "one frame", f, [][]byte{b}, len(f), api.OK)
		wantScan(t, "the same frame twice", append(bytes.Clone(f), f...), [][]byte{b, b}, 2*len(f), api.OK)
	}
}

func TestScanOfTheBeginningThatStays(t *testing.T) {
	all, carried, ends := frames()
	for stays := range len(all) + 1 {
		n := 0
		for n+1 < len(ends) && ends[n+1] <= stays {
			n++
		}
		for _, noughts := range []int{0, 1, 2, 9, 10, 63, 64, 400} {
			torn := append(bytes.Clone(all[:stays]), make([]byte, noughts)...)
			wantScan(t, "a beginning with noughts behind", torn, carried[:n], ends[n], api.OK)
		}
	}
}

func TestScanOfAGreatFrameThatIsTorn(t *testing.T) {
	first := whole([]byte("first"))
	// Lengths with several bytes: of a beginning that ends within them a lesser length is left.
	for _, size := range []int{0x0101, 0x0a00, 0x010101, api.MaxFrame} {
		all := append(bytes.Clone(first), whole(bytes.Repeat([]byte{0x5a}, size))...)
		for _, stays := range []int{1, 2, 3, 4, 5, 8, 9, 10, 11, size / 2, size + 8, size + 9} {
			for _, noughts := range []int{0, 1, 12, size + 20} {
				torn := append(bytes.Clone(all[:len(first)+stays]), make([]byte, noughts)...)
				wantScan(t, "a great frame that is torn", torn, [][]byte{[]byte("first")}, len(first), api.OK)
			}
		}
	}
}

func TestScanUpToAFault(t *testing.T) {
	all, carried, _ := frames()
	f := whole([]byte("abc"))
	rows := []struct {
		what  string
		fault []byte
		e     api.Errno
	}{
		{"another first byte", []byte{1}, api.ErrForm},
		{"a frame with another first byte", put(f, 0, 0xa4), api.ErrForm},
		{"too great a length", put(f, 3, 0x20), api.ErrForm},
		{"another end mark", put(f, 12, 0x5b), api.ErrForm},
		{"another sum", put(f, 5, f[5]+1), api.ErrSum},
		{"another carried byte", put(f, 10, 'x'), api.ErrSum},
		{"a beginning", f[:12], api.OK},
		{"a 0 for the first byte", put(f, 0, 0), api.OK},
		{"a 0 for the end mark", put(f, 12, 0), api.OK},
	}
	for _, row := range rows {
		wantScan(t, row.what, row.fault, nil, 0, row.e)
		// Whole frames behind a fault are none: nobody knows where they begin.
		for _, more := range [][]byte{nil, f} {
			if row.what == "a beginning" && more != nil {
				continue // the next frame's first byte stands for the end mark then
			}
			wantScan(t, row.what+", behind frames", slices.Concat(all, row.fault, more), carried, len(all), row.e)
		}
	}
	wantScan(t, "a beginning with a frame behind", slices.Concat(all, f[:12], f), carried, len(all), api.ErrForm)
	wantScan(t, "one 0 between frames", slices.Concat(all, []byte{0}, f), carried, len(all), api.OK)
}

func TestScanOfAnyBytes(t *testing.T) {
	for i := range uint64(20000) {
		var b []byte
		for k := range i % 4 {
			b = append(b, whole(noise(int((i+k)%5), i+k+1))...)
		}
		b = append(b, noise(int(i/4%14), i+1)...)
		if len(b) > 0 && i%3 == 0 {
			b[int(i/3)%len(b)] ^= 1 << (i / 5 % 8)
		}
		var all [][]byte
		at, e := 0, api.Errno(api.OK)
		for {
			carried, size, is := named(b[at:])
			if is != api.OK {
				e = is
				break
			}
			all, at = append(all, carried), at+size
		}
		if e == api.ErrNone || e == api.ErrShort {
			e = api.OK
		}
		wantScan(t, "any bytes", b, all, at, e)
	}
}

func TestWhatIsHandedInStays(t *testing.T) {
	all, _, _ := frames()
	for _, b := range [][]byte{nil, []byte("abc"), all, put(all, 20, 1), all[:len(all)-1]} {
		list, room := roomy(b)
		was := bytes.Clone(room)
		Pack(list)
		Take(list)
		Scan(list)
		if !bytes.Equal(room, was) {
			t.Errorf("R3: bytes that were handed in, or the room behind them, are others now")
		}
	}
}

func TestWhatIsHandedOutIsTheCallersOwn(t *testing.T) {
	b := []byte("abc")
	f, _ := Pack(b)
	b[0] = 'x'
	wantTake(t, "a frame of bytes that were others then", f, []byte("abc"), 13, api.OK)

	was := bytes.Clone(f)
	got, _, _ := Take(f)
	write(got)
	if !bytes.Equal(f, was) {
		t.Errorf("R3: who writes into what Take answered changes the frame: %x; want %x", f, was)
	}
	got, _, _ = Take(f)
	write(f)
	if string(got) != "abc" {
		t.Errorf("R3: who writes into a frame changes what Take answered: %x", got)
	}
}

// write: other bytes all over a list and the room behind its end.
func write(b []byte) {
	for i := range b[:cap(b)] {
		b[:cap(b)][i] = 0x33
	}
}

func TestTheListsOfAScanShareNothing(t *testing.T) {
	all, carried, _ := frames()
	was := bytes.Clone(all)
	got, _, _ := Scan(all)
	for i := range got {
		write(got[i])
		for k := i + 1; k < len(got); k++ {
			if !bytes.Equal(got[k], carried[k]) {
				t.Fatalf("R3: who writes into list %d of a Scan changes list %d", i, k)
			}
		}
	}
	if !bytes.Equal(all, was) {
		t.Errorf("R3: who writes into what Scan answered changes the frames")
	}
	got, _, _ = Scan(all)
	write(all)
	if !slices.EqualFunc(got, carried, bytes.Equal) {
		t.Errorf("R3: who writes into frames changes what Scan answered")
	}
}
