package slots

import (
	"bytes"
	"fmt"
	"math"
	"slices"
	"strings"
	"testing"

	"hansom/api"
	"hansom/code"
	"hansom/disk"
	"hansom/frame"
)

// ownBytes: how many bytes a frame has beside what it carries.
const ownBytes = 10

// noise: bytes that look like chance, the same ones each time, from a seed that is not 0.
func noise(n int, seed uint64) []byte {
	out := make([]byte, n)
	for i := range out {
		seed ^= seed << 13
		seed ^= seed >> 7
		seed ^= seed << 17
		out[i] = byte(seed >> 32)
	}
	return out
}

// newDisk: a disk of that size.
func newDisk(t *testing.T, size int) *disk.Disk {
	t.Helper()
	d, e := disk.New(size)
	if e != api.OK {
		t.Fatalf("disk.New(%d): error %d", size, e)
	}
	return d
}

// must: the slots of a disk that has some.
func must(t *testing.T, d *disk.Disk) *Slots {
	t.Helper()
	s, e := Open(d)
	if s == nil || e != api.OK {
		t.Fatalf("P8.1: Open: %v, error %d; want slots, OK", s, e)
	}
	return s
}

// want: a call has answered this.
func want(t *testing.T, what string, got, e api.Errno) {
	t.Helper()
	if got != e {
		t.Errorf("%s: error %d; want %d", what, got, e)
	}
}

// keep: these texts are saved, one behind the other.
func keep(t *testing.T, s *Slots, list ...string) {
	t.Helper()
	for _, b := range list {
		if e := s.Save([]byte(b)); e != api.OK {
			t.Fatalf("P8.2: Save of %d bytes: error %d", len(b), e)
		}
	}
}

// last: this is the last one; that of the number 0 is none.
func last(t *testing.T, what string, s *Slots, number uint64, data string) {
	t.Helper()
	b, n, is := s.Last()
	if n != number || is != (number > 0) || string(b) != data {
		t.Errorf("%s: Last: %.40q, %d, %v; want %.40q, %d", what, b, n, is, data, number)
	}
}

// reopened: this is the last one of a fork of the disk, when it is opened.
func reopened(t *testing.T, what string, d *disk.Disk, number uint64, data string) {
	t.Helper()
	last(t, what+", opened again", must(t, d.Fork()), number, data)
}

// framed: the frame that carries this.
func framed(t *testing.T, carried []byte) []byte {
	t.Helper()
	b, e := frame.Pack(carried)
	if e != api.OK {
		t.Fatalf("frame.Pack: error %d", e)
	}
	return b
}

// slot: what a slot's file has behind a save.
func slot(t *testing.T, number uint64, data string) []byte {
	t.Helper()
	return framed(t, append(code.Num(number), data...))
}

// file: a file's name, and its bytes.
type file struct {
	name string
	data []byte
}

// filesOf: all files of a disk that is up.
func filesOf(t *testing.T, d *disk.Disk) []file {
	t.Helper()
	names, e := d.Names()
	want(t, "Names", e, api.OK)
	var out []file
	for _, name := range names {
		b, e := d.Read(name)
		want(t, "Read "+name, e, api.OK)
		out = append(out, file{name, b})
	}
	return out
}

// holds: a disk that is up has just these files.
func holds(t *testing.T, what string, d *disk.Disk, list ...file) {
	t.Helper()
	got := filesOf(t, d)
	if !slices.EqualFunc(got, list, func(a, b file) bool { return a.name == b.name && bytes.Equal(a.data, b.data) }) {
		t.Errorf("%s: files %.200v; want %.200v", what, got, list)
	}
}

// diskOf: a disk that has these files, all of them safe.
func diskOf(t *testing.T, list ...file) *disk.Disk {
	t.Helper()
	d := newDisk(t, api.MaxDisk)
	for _, f := range list {
		want(t, "Append "+f.name, d.Append(f.name, f.data), api.OK)
		want(t, "Sync "+f.name, d.Sync(f.name), api.OK)
	}
	return d
}

// fall: the disk falls, keeps so much of each file, and is started.
func fall(t *testing.T, d *disk.Disk, keep ...int) {
	t.Helper()
	want(t, "Crash", d.Crash(keep), api.OK)
	want(t, "Start", d.Start(), api.OK)
}

func TestExample(t *testing.T) {
	d := newDisk(t, 1000)
	s := must(t, d)
	last(t, "P8.1: new slots", s, 0, "")
	holds(t, "P8.1: new slots", d)
	keep(t, s, "a")
	holds(t, "P8.2: one save", d, file{"s1", slot(t, 1, "a")})
	keep(t, s, "b")
	last(t, "P8.2: two saves", s, 2, "b")
	holds(t, "P8.2: two saves", d, file{"s0", slot(t, 2, "b")}, file{"s1", slot(t, 1, "a")})
	d.Arm(1)
	want(t, "P8.2: Save of what is hit", s.Save([]byte("c")), api.ErrDown)
	last(t, "R4: Save of what is hit", s, 2, "b")
	want(t, "Start", d.Start(), api.OK)
	last(t, "P8.3: the example", must(t, d), 2, "b")
}

func TestOpenRefuses(t *testing.T) {
	bad := file{"s0", []byte{1}}
	down := diskOf(t, bad)
	down.Crash(nil)
	downAndNone := newDisk(t, 100)
	downAndNone.Crash(nil)
	for _, row := range []struct {
		what string
		d    *disk.Disk
		e    api.Errno
	}{
		{"no disk", nil, api.ErrNil},
		{"a disk that is down", downAndNone, api.ErrDown},
		{"a disk that is down, and bad", down, api.ErrDown},
		{"a bad disk", diskOf(t, bad), api.ErrBad},
	} {
		if s, e := Open(row.d); s != nil || e != row.e {
			t.Errorf("P8.1: Open: %s: %v, error %d; want nil, error %d", row.what, s, e, row.e)
		}
	}
}

func TestBytesOfAnyLength(t *testing.T) {
	d := newDisk(t, api.MaxDisk)
	s := must(t, d)
	all := []string{
		"", "a", "", "\x00", "\xa5", "\x5a", "two", string(slot(t, 7, "a frame")), string(make([]byte, 200)), "\x80\x80\x80",
		strings.Repeat("\xff", 63), strings.Repeat("x", 64), string(noise(20000, 5)), string(noise(api.MaxFrame-1, 7)), "", "end",
	}
	for i, b := range all {
		number := uint64(i + 1)
		keep(t, s, b)
		last(t, "P8.2: bytes of any length", s, number, b)
		reopened(t, "P8.1: bytes of any length", d, number, b)
	}
	holds(t, "P8.2: bytes of any length", d, file{"s0", slot(t, 16, "end")}, file{"s1", slot(t, 15, "")})
	want(t, "P8.2: Save of nil", s.Save(nil), api.OK)
	last(t, "P8.2: Save of nil", s, 17, "")
	reopened(t, "P8.2: Save of nil", d, 17, "")
}

// Many saves in turn, by one and by those that are opened anew behind each; the number grows by a byte on the way.
func TestManySaves(t *testing.T) {
	d := newDisk(t, 1000)
	s := must(t, d)
	for n := uint64(1); n <= 300; n++ {
		if n%7 == 3 {
			s = must(t, d)
		}
		text := fmt.Sprint("save ", n)
		keep(t, s, text)
		last(t, "P8.2: many saves", s, n, text)
		reopened(t, "P8.1: many saves", d, n, text)
		list := []file{{nameOf(n), slot(t, n, text)}}
		if n > 1 {
			list = append(list, file{nameOf(n - 1), slot(t, n-1, fmt.Sprint("save ", n-1))})
			slices.SortFunc(list, func(a, b file) int { return strings.Compare(a.name, b.name) })
		}
		holds(t, "P8.2: many saves", d, list...)
	}
	names, _ := d.Names()
	if !slices.Equal(names, []string{"s0", "s1"}) {
		t.Errorf("P8.2: the files are %v", names)
	}
}

// A slot as a fall, or nobody, has left it: there is no save in it.
func TestPartsOfFrames(t *testing.T) {
	whole := slot(t, 4, string(noise(60, 3)))
	for cut := range len(whole) {
		for _, noughts := range []int{0, 1, 64} {
			part := append(bytes.Clone(whole[:cut]), make([]byte, noughts)...)
			what := fmt.Sprintf("P8.1: %d bytes and %d noughts", cut, noughts)

			d := diskOf(t, file{"s0", part})
			s := must(t, d)
			last(t, what+" alone", s, 0, "")
			holds(t, what+": Open writes nothing", d, file{"s0", part})
			keep(t, s, "a")
			holds(t, what+" alone, and a save", d, file{"s0", part}, file{"s1", slot(t, 1, "a")})
			keep(t, s, "b")
			holds(t, what+" alone, and two saves", d, file{"s0", slot(t, 2, "b")}, file{"s1", slot(t, 1, "a")})

			d = diskOf(t, file{"s0", part}, file{"s1", slot(t, 3, "three")})
			s = must(t, d)
			last(t, what+" beside a save", s, 3, "three")
			keep(t, s, "four")
			reopened(t, what+" beside a save, and on", d, 4, "four")
			holds(t, what+" beside a save, and on", d, file{"s0", slot(t, 4, "four")}, file{"s1", slot(t, 3, "three")})

			d = diskOf(t, file{"s0", part}, file{"s1", part})
			last(t, what+" twice", must(t, d), 0, "")
		}
	}
}

func TestMoreBehindAFrame(t *testing.T) {
	for _, more := range [][]byte{{0}, {1}, {0xa5}, {0x5a}, make([]byte, 100), noise(100, 9), slot(t, 9, "other"), slot(t, 8, "other")} {
		d := diskOf(t, file{"s0", append(slot(t, 4, "four"), more...)}, file{"s1", slot(t, 3, "three")})
		s := must(t, d)
		last(t, "P8.1: more behind a frame", s, 4, "four")
		keep(t, s, "five")
		last(t, "P8.1: more behind the elder frame", must(t, d), 5, "five")
		keep(t, s, "six")
		holds(t, "P8.2: the elder frame has more behind it", d, file{"s0", slot(t, 6, "six")}, file{"s1", slot(t, 5, "five")})
	}
}

// turned: bytes of which the one at a place is another one.
func turned(b []byte, at int, x byte) []byte {
	out := bytes.Clone(b)
	out[at] = x
	return out
}

func TestBadSlots(t *testing.T) {
	four := slot(t, 4, "four")
	for _, row := range []struct {
		what  string
		carry []byte
	}{
		{"a first byte", []byte{1}},
		{"a first byte ahead of a frame", turned(four, 0, 0x5a)},
		{"a length that is too great", turned(four, 3, 0x11)},
		{"an end mark", turned(four, len(four)-1, 1)},
		{"a sum", turned(four, 5, four[5]^1)},
		{"a carried byte", turned(four, 10, 'F')},
		{"a length", turned(append(bytes.Clone(four), 0x5a), 1, 6)},
		{"a sum, and more behind", append(turned(four, 8, four[8]^0x80), 1, 2)},
		{"no number", framed(t, nil)},
		{"the beginning of a number", framed(t, []byte{0x80})},
		{"nine bytes of a number", framed(t, bytes.Repeat([]byte{0xfe}, 9))},
		{"a number with a 0 behind it", framed(t, []byte{0x84, 0, 'a'})},
		{"a number that is too great", framed(t, append(bytes.Repeat([]byte{0xfe}, 9), 2, 'a'))},
		{"a number that does not end", framed(t, bytes.Repeat([]byte{0xfe}, 20))},
		{"the number 0", slot(t, 0, "none")},
		{"the number 0 alone", slot(t, 0, "")},
		{"an odd number in s0", slot(t, 5, "five")},
		{"the number 1 in s0", slot(t, 1, "")},
		{"the greatest number in s0", slot(t, math.MaxUint64, "odd")},
	} {
		for _, list := range [][]file{
			{{"s0", row.carry}},
			{{"s0", row.carry}, {"s1", slot(t, 1, "one")}},
			{{"s0", row.carry}, {"s1", slot(t, 9, "nine")}},
			{{"s0", row.carry}, {"s1", nil}},
			{{"s0", row.carry}, {"s1", []byte{1}}},
		} {
			d := diskOf(t, list...)
			if s, e := Open(d); s != nil || e != api.ErrBad {
				t.Errorf("P8.1: Open: %s, of %d files: %v, error %d; want nil, ErrBad", row.what, len(list), s, e)
			}
			holds(t, "R4: a refused disk: "+row.what, d, list...)
		}
	}
	for _, bad := range [][]byte{{1}, slot(t, 4, "four"), slot(t, 2, ""), slot(t, 0, ""), framed(t, nil), turned(slot(t, 3, "x"), 5, 0)} {
		for _, list := range [][]file{{{"s1", bad}}, {{"s0", slot(t, 6, "six")}, {"s1", bad}}} {
			if s, e := Open(diskOf(t, list...)); s != nil || e != api.ErrBad {
				t.Errorf("P8.1: Open: s1 is %x: %v, error %d; want nil, ErrBad", bad, s, e)
			}
		}
	}
}

func TestOneOrBoth(t *testing.T) {
	const most = math.MaxUint64
	for _, row := range []struct {
		what   string
		list   []file
		number uint64
		data   string
	}{
		{"none", nil, 0, ""},
		{"two without bytes", []file{{"s0", nil}, {"s1", nil}}, 0, ""},
		{"s1 alone", []file{{"s1", slot(t, 1, "one")}}, 1, "one"},
		{"s0 alone", []file{{"s0", slot(t, 2, "two")}}, 2, "two"},
		{"s1 alone, further on", []file{{"s1", slot(t, 1001, "x")}}, 1001, "x"},
		{"s1, and s0 without bytes", []file{{"s0", nil}, {"s1", slot(t, 1, "one")}}, 1, "one"},
		{"s0 is greater", []file{{"s0", slot(t, 2, "two")}, {"s1", slot(t, 1, "one")}}, 2, "two"},
		{"s1 is greater", []file{{"s0", slot(t, 2, "two")}, {"s1", slot(t, 3, "three")}}, 3, "three"},
		{"s0 is greater by far", []file{{"s0", slot(t, 300, "two")}, {"s1", slot(t, 255, "three")}}, 300, "two"},
		{"s1 is greater by far", []file{{"s0", slot(t, 2, "two")}, {"s1", slot(t, 1<<63+1, "")}}, 1<<63 + 1, ""},
		{"both at the end", []file{{"s0", slot(t, most-1, "y")}, {"s1", slot(t, most, "z")}}, most, "z"},
		{"one ahead of the end", []file{{"s0", slot(t, most-1, "y")}, {"s1", slot(t, most-2, "z")}}, most - 1, "y"},
		{"as words with a sign", []file{{"s0", slot(t, 1<<63, "y")}, {"s1", slot(t, 5, "z")}}, 1 << 63, "y"},
	} {
		d := diskOf(t, row.list...)
		s := must(t, d)
		last(t, "P8.1: "+row.what, s, row.number, row.data)
		holds(t, "P8.1: Open writes nothing: "+row.what, d, row.list...)
		if row.number == most {
			continue
		}
		keep(t, s, "next")
		last(t, "P8.2: "+row.what+", and on", s, row.number+1, "next")
		reopened(t, "P8.2: "+row.what+", and on", d, row.number+1, "next")
	}
}

func TestOtherFiles(t *testing.T) {
	others := []file{{"l0000000000", []byte{1}}, {"s", slot(t, 8, "s")}, {"s00", slot(t, 8, "s")}, {"s1.", []byte("s")}, {"s2", slot(t, 8, "s")}, {"t0", []byte{9}}}
	d := diskOf(t, others...)
	s := must(t, d)
	last(t, "P8.1: other files", s, 0, "")
	keep(t, s, "one", "two", "three")
	reopened(t, "P8.1: other files beside", d, 3, "three")
	holds(t, "P8.1: other files beside", d, others[0], others[1], file{"s0", slot(t, 2, "two")}, others[2], file{"s1", slot(t, 3, "three")}, others[3], others[4], others[5])
}

// What a frame may just carry together with its number, and one byte more.
func TestLongestBytes(t *testing.T) {
	for _, number := range []uint64{1, 2, 127, 128, 129, 16383, 16384, math.MaxUint64 - 1, math.MaxUint64} {
		var list []file
		ahead := ""
		if number > 1 {
			ahead = "ahead"
			list = []file{{nameOf(number - 1), slot(t, number-1, ahead)}}
		}
		d := diskOf(t, list...)
		s := must(t, d)
		most := api.MaxFrame - len(code.Num(number))
		want(t, fmt.Sprintf("P8.2: Save %d, one byte too long", number), s.Save(make([]byte, most+1)), api.ErrFull)
		want(t, fmt.Sprintf("P8.2: Save %d, by far too long", number), s.Save(make([]byte, 2*api.MaxFrame)), api.ErrFull)
		last(t, "P8.2: a save that is too long", s, number-1, ahead)
		holds(t, "R4: a save that is too long", d, list...)
		text := string(noise(most, number))
		keep(t, s, text)
		last(t, "P8.2: just as long as may be", s, number, text)
		reopened(t, "P8.2: just as long as may be", d, number, text)
	}
}

func TestNumbersEnd(t *testing.T) {
	const most = math.MaxUint64
	d := diskOf(t, file{"s0", slot(t, most-1, "one less")})
	s := must(t, d)
	last(t, "P8.1: one less", s, most-1, "one less")
	keep(t, s, "the end")
	last(t, "P8.2: the last number", s, most, "the end")
	list := []file{{"s0", slot(t, most-1, "one less")}, {"s1", slot(t, most, "the end")}}
	for _, u := range []*Slots{s, must(t, d)} {
		for _, b := range [][]byte{nil, {1}, make([]byte, api.MaxFrame+1), make([]byte, api.MaxDisk)} {
			want(t, "P8.2: Save behind the last number", u.Save(b), api.ErrOver)
			last(t, "P8.2: Save behind the last number", u, most, "the end")
			holds(t, "R4: Save behind the last number", d, list...)
		}
	}
}

// More than one fault at once: ErrNil, ErrDown, ErrOver, ErrFull.
func TestSaveRefuses(t *testing.T) {
	long := make([]byte, api.MaxFrame+1)
	var none *Slots
	want(t, "P8.2: Save of too much to nil", none.Save(long), api.ErrNil)

	d := diskOf(t, file{"s1", slot(t, math.MaxUint64, "end")})
	s := must(t, d)
	want(t, "P8.2: Save: no number, too long", s.Save(long), api.ErrOver)
	d.Crash(nil)
	want(t, "P8.2: Save: the disk is down, no number, too long", s.Save(long), api.ErrDown)
	last(t, "P8.2: refused", s, math.MaxUint64, "end")

	d = newDisk(t, 1)
	s = must(t, d)
	want(t, "P8.2: Save: no room", s.Save(nil), api.ErrFull)
	want(t, "P8.2: Save: no room, too long", s.Save(long), api.ErrFull)
	d.Crash(nil)
	want(t, "P8.2: Save: the disk is down, no room", s.Save(nil), api.ErrDown)
	d.Start()
	want(t, "P8.2: Save: it was down, too long", s.Save(long), api.ErrDown)
}

// A disk that has just room, and one byte less; the elder one of two saves makes room.
func TestRoom(t *testing.T) {
	for _, spare := range []int{0, 1} {
		one, two, three := slot(t, 1, "one"), slot(t, 2, "number two"), slot(t, 3, "number three, longer")
		other := file{"other", []byte("abc")}

		d := newDisk(t, len(one)+3-spare)
		want(t, "Append", d.Append(other.name, other.data), api.OK)
		s := must(t, d)
		saves(t, "the first save", d, s, "one", spare == 0, other, file{"s1", one})

		d = newDisk(t, len(one)+len(two)+3-spare)
		want(t, "Append", d.Append(other.name, other.data), api.OK)
		s = must(t, d)
		keep(t, s, "one")
		saves(t, "the second save", d, s, "number two", spare == 0, other, file{"s0", two}, file{"s1", one})

		d = newDisk(t, len(two)+len(three)+3-spare)
		want(t, "Append", d.Append(other.name, other.data), api.OK)
		s = must(t, d)
		keep(t, s, "one", "number two")
		saves(t, "the third save", d, s, "number three, longer", spare == 0, other, file{"s0", two}, file{"s1", three})
	}
}

// saves: if it is to be saved, it is the last one, and the disk has these files; if not, all is as it was, and a shorter one may go on.
func saves(t *testing.T, what string, d *disk.Disk, s *Slots, text string, is bool, list ...file) {
	t.Helper()
	b, number, _ := s.Last()
	before := filesOf(t, d)
	if is {
		want(t, "P8.2: just room: "+what, s.Save([]byte(text)), api.OK)
		last(t, "P8.2: just room: "+what, s, number+1, text)
		reopened(t, "P8.2: just room: "+what, d, number+1, text)
		holds(t, "P8.2: just room: "+what, d, list...)
		fall(t, d)
		reopened(t, "P8.3: just room: "+what, d, number+1, text)
		return
	}
	for range 3 {
		want(t, "P8.2: one byte less: "+what, s.Save([]byte(text)), api.ErrFull)
		last(t, "P8.2: one byte less: "+what, s, number, string(b))
		reopened(t, "P8.2: one byte less: "+what, d, number, string(b))
		holds(t, "R4: one byte less: "+what, d, before...)
	}
	short := text[:len(text)-1]
	want(t, "P8.2: a byte less of it too: "+what, s.Save([]byte(short)), api.OK)
	reopened(t, "P8.2: a byte less of it too: "+what, d, number+1, short)
}

// A save that is refused is not one that would be done: what is armed waits for the next one.
func TestRefusedIsNotHit(t *testing.T) {
	d := newDisk(t, 50)
	s := must(t, d)
	keep(t, s, "one", "two")
	before := filesOf(t, d)
	for _, hit := range []int{1, 2, 3} {
		d.Arm(hit)
		want(t, "P8.2: no room, and armed", s.Save(make([]byte, 40)), api.ErrFull)
		want(t, "P8.2: too long, and armed", s.Save(make([]byte, api.MaxFrame+1)), api.ErrFull)
		holds(t, "R4: no room, and armed", d, before...)
	}
	d.Arm(1)
	want(t, "P8.2: no room, and armed", s.Save(make([]byte, 40)), api.ErrFull)
	want(t, "P8.2: what was armed", s.Save([]byte("x")), api.ErrDown)
}

func TestNoRoomForFiles(t *testing.T) {
	for count := api.MaxFiles - 2; count <= api.MaxFiles; count++ {
		d := newDisk(t, 100000)
		for k := range count {
			want(t, "Append", d.Append(fmt.Sprint("f", k), nil), api.OK)
		}
		s := must(t, d)
		number := uint64(0)
		for k := range 6 {
			text := fmt.Sprint("save ", k)
			e := s.Save([]byte(text))
			if count+k < api.MaxFiles || count == api.MaxFiles-2 {
				want(t, "P8.2: room for files", e, api.OK)
				number++
			} else {
				want(t, "P8.2: no more files", e, api.ErrFull)
				text = "save 0"
				if number == 0 {
					text = ""
				}
			}
			last(t, "P8.2: room for files", s, number, text)
			reopened(t, "P8.2: room for files", d, number, text)
		}
	}
}

// An Open is no call that is hit, and changes nothing: opened twice is as opened once.
func TestOpenedAgain(t *testing.T) {
	d := newDisk(t, 1000)
	keep(t, must(t, d), "one", "two", "three")
	before := filesOf(t, d)
	d.Arm(1)
	for range 3 {
		last(t, "P8.1: opened again", must(t, d), 3, "three")
		holds(t, "P8.1: opened again", d, before...)
	}
	want(t, "P8.2: what was armed", must(t, d).Save(nil), api.ErrDown)
}

// Slots that have answered ErrDown, asked again ahead of the Start or not.
func TestDown(t *testing.T) {
	for i := range 10 {
		hit, asked := i/2, i%2
		d := newDisk(t, 1000)
		s := must(t, d)
		keep(t, s, "one", "two")
		if hit > 0 {
			d.Arm(hit)
		} else {
			d.Crash(nil)
		}
		want(t, "P8.2: Save of a disk that goes down, or is", s.Save([]byte("three")), api.ErrDown)
		for range asked {
			last(t, "P8.2: Last behind ErrDown", s, 2, "two")
			want(t, "P8.2: Save behind ErrDown", s.Save([]byte("four")), api.ErrDown)
		}
		want(t, "Start", d.Start(), api.OK)
		before := filesOf(t, d)
		want(t, "P8.2: Save behind ErrDown, and a Start", s.Save([]byte("four")), api.ErrDown)
		want(t, "P8.2: Save of too much behind ErrDown", s.Save(make([]byte, api.MaxFrame+1)), api.ErrDown)
		last(t, "P8.2: Last behind ErrDown, and a Start", s, 2, "two")
		holds(t, "P8.2: behind ErrDown nothing is done", d, before...)
	}
}

// What falls and is started while nobody asks the slots has not been told to them.
func TestFallBetweenSaves(t *testing.T) {
	d := newDisk(t, 1000)
	s := must(t, d)
	for n := uint64(1); n < 9; n++ {
		text := fmt.Sprint("save ", n)
		keep(t, s, text)
		fall(t, d)
		last(t, "P8.3: a fall between saves", s, n, text)
		reopened(t, "P8.3: a fall between saves", d, n, text)
	}
}

func TestNil(t *testing.T) {
	for _, s := range []*Slots{nil, {}} {
		want(t, "P8.2: Save of nil", s.Save([]byte("a")), api.ErrNil)
		want(t, "P8.2: Save of nothing of nil", s.Save(nil), api.ErrNil)
		last(t, "P8.2: Last of nil", s, 0, "")
	}
}

func TestOwnMemory(t *testing.T) {
	d := newDisk(t, 10000)
	s := must(t, d)
	room := []byte("bytes and room")
	for number := uint64(1); number < 4; number++ {
		want(t, "P8.2: Save", s.Save(room[:5]), api.OK)
		if string(room) != "bytes and room" {
			t.Errorf("R3: what was handed in is changed: %q", room)
		}
		copy(room, "OTHERS")
		last(t, "R3: what was handed in is written into", s, number, "bytes")
		for _, u := range []*Slots{s, must(t, d)} {
			b, _, _ := u.Last()
			copy(b, "OTHERS")
			copy(append(b, "!!!!"...), "OTHERS")
			last(t, "R3: what was handed out is written into", u, number, "bytes")
		}
		reopened(t, "R3: the disk", d, number, "bytes")
		copy(room, "bytes and room")
	}
}

// Two slots on two disks know nothing of one another.
func TestApart(t *testing.T) {
	d := newDisk(t, 1000)
	keep(t, must(t, d), "one")
	f := d.Fork()
	s, u := must(t, d), must(t, f)
	keep(t, s, "two", "three")
	f.Arm(1)
	want(t, "P8.2: the other one is hit", u.Save([]byte("x")), api.ErrDown)
	keep(t, s, "four")
	last(t, "R2: apart", s, 4, "four")
	last(t, "R2: apart", u, 1, "one")
}
