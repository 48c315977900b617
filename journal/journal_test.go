package journal

import (
	"bytes"
	"fmt"
	"math"
	"slices"
	"testing"

	"hansom/api"
	"hansom/disk"
	"hansom/frame"
)

// ownBytes: how many bytes a frame has beside what it carries.
const ownBytes = 10

// noise: bytes that look like chance, the same ones each time, from a seed that is not 0.
func noise(n int, seed uint64) []byte {
	out := make([]byte, n)
	for i := range out {
		seed ^= seed << 13
		seed ^= seed >> 7
		seed ^= seed << 17
		out[i] = byte(seed >> 32)
	}
	return out
}

// newDisk: a disk of that size.
func newDisk(t *testing.T, size int) *disk.Disk {
	t.Helper()
	d, e := disk.New(size)
	if e != api.OK {
		t.Fatalf("disk.New(%d): error %d", size, e)
	}
	return d
}

// must: the journal of a disk that has one.
func must(t *testing.T, d *disk.Disk, most int) *Journal {
	t.Helper()
	j, e := Open(d, most)
	if j == nil || e != api.OK {
		t.Fatalf("P7.1: Open(%d): %v, error %d; want a journal, OK", most, j, e)
	}
	return j
}

// want: a call has answered this.
func want(t *testing.T, what string, got, e api.Errno) {
	t.Helper()
	if got != e {
		t.Errorf("%s: error %d; want %d", what, got, e)
	}
}

// add: these records are appended.
func add(t *testing.T, j *Journal, records ...string) {
	t.Helper()
	for _, r := range records {
		want(t, "P7.2: Append "+r, j.Append([]byte(r)), api.OK)
	}
}

// letters: the texts "a", "b", and so on.
func letters(n int) []string {
	out := make([]string, n)
	for i := range out {
		out[i] = string(rune('a' + i))
	}
	return out
}

// texts: records as texts.
func texts(records [][]byte) []string {
	out := make([]string, len(records))
	for i, r := range records {
		out[i] = string(r)
	}
	return out
}

// stands: the journal has just these records, from that number on, in so many segments.
func stands(t *testing.T, what string, j *Journal, first uint64, segments int, records ...string) {
	t.Helper()
	next := first + uint64(len(records))
	if j.First() != first || j.Next() != next || j.Segments() != segments {
		t.Errorf("%s: %d to %d in %d segments; want %d to %d in %d", what, j.First(), j.Next(), j.Segments(), first, next, segments)
	}
	if got := texts(j.Records()); !slices.Equal(got, records) {
		t.Errorf("%s: records %.40q; want %.40q", what, got, records)
	}
}

// reopened: a fork of the disk has just this journal, when it is opened.
func reopened(t *testing.T, what string, d *disk.Disk, most int, first uint64, segments int, records ...string) {
	t.Helper()
	stands(t, what, must(t, d.Fork(), most), first, segments, records...)
}

// frames: the frames of these records, one behind the other.
func frames(t *testing.T, records ...string) []byte {
	t.Helper()
	var out []byte
	for _, r := range records {
		b, e := frame.Pack([]byte(r))
		if e != api.OK {
			t.Fatalf("frame.Pack: error %d", e)
		}
		out = append(out, b...)
	}
	return out
}

// file: a file's name, and its bytes.
type file struct {
	name string
	data []byte
}

// files: all files of a disk that is up.
func files(t *testing.T, d *disk.Disk) []file {
	t.Helper()
	names, e := d.Names()
	want(t, "Names", e, api.OK)
	var out []file
	for _, name := range names {
		b, e := d.Read(name)
		want(t, "Read "+name, e, api.OK)
		out = append(out, file{name, b})
	}
	return out
}

// holds: a disk that is up has just these files.
func holds(t *testing.T, what string, d *disk.Disk, list ...file) {
	t.Helper()
	got := files(t, d)
	if !slices.EqualFunc(got, list, func(a, b file) bool { return a.name == b.name && bytes.Equal(a.data, b.data) }) {
		t.Errorf("%s: files %.200v; want %.200v", what, got, list)
	}
}

// diskOf: a disk that has these files, all of them safe.
func diskOf(t *testing.T, list ...file) *disk.Disk {
	t.Helper()
	d := newDisk(t, api.MaxDisk)
	for _, f := range list {
		want(t, "Append "+f.name, d.Append(f.name, f.data), api.OK)
		want(t, "Sync "+f.name, d.Sync(f.name), api.OK)
	}
	return d
}

// fall: the disk falls, keeps so much of each file, and is started.
func fall(t *testing.T, d *disk.Disk, keep ...int) {
	t.Helper()
	want(t, "Crash", d.Crash(keep), api.OK)
	want(t, "Start", d.Start(), api.OK)
}

func TestExample(t *testing.T) {
	d := newDisk(t, 1000)
	j := must(t, d, 2)
	stands(t, "P7.1: a new journal", j, 0, 0)
	holds(t, "P7.1: a new journal", d)
	add(t, j, "a", "b", "c")
	stands(t, "P7.2: the example", j, 0, 2, "a", "b", "c")
	holds(t, "P7.2: the example", d, file{"l0000000000", frames(t, "a", "b")}, file{"l0000000002", frames(t, "c")})
	reopened(t, "P7.1: the example", d, 2, 0, 2, "a", "b", "c")
}

func TestOpenRefuses(t *testing.T) {
	bad := file{"lx", nil}
	down := diskOf(t, bad)
	down.Crash(nil)
	for _, row := range []struct {
		what string
		d    *disk.Disk
		most int
		e    api.Errno
	}{
		{"no disk", nil, 5, api.ErrNil},
		{"no disk, most 0", nil, 0, api.ErrNil},
		{"most 0", newDisk(t, 100), 0, api.ErrArg},
		{"most -1", newDisk(t, 100), -1, api.ErrArg},
		{"most 1001", newDisk(t, 100), 1001, api.ErrArg},
		{"the least most", newDisk(t, 100), math.MinInt, api.ErrArg},
		{"the greatest most", newDisk(t, 100), math.MaxInt, api.ErrArg},
		{"most 0 on a disk that is down", down, 0, api.ErrArg},
		{"most 1001 of a bad disk", diskOf(t, bad), 1001, api.ErrArg},
		{"a disk that is down, and bad", down, 5, api.ErrDown},
		{"a bad disk", diskOf(t, bad), 5, api.ErrBad},
	} {
		if j, e := Open(row.d, row.most); j != nil || e != row.e {
			t.Errorf("P7.1: Open: %s: %v, error %d; want nil, error %d", row.what, j, e, row.e)
		}
	}
	for _, most := range []int{1, 2, 999, 1000} {
		stands(t, "P7.1: most", must(t, newDisk(t, 100), most), 0, 0)
	}
}

func TestMost(t *testing.T) {
	for _, most := range []int{1, 2, 3, 7, 999, 1000} {
		d := newDisk(t, api.MaxDisk)
		j := must(t, d, most)
		var all []string
		for n := 1; n <= min(3*most+1, 2001); n++ {
			all = append(all, fmt.Sprint("record ", n))
			add(t, j, all[n-1])
			if j.Next() != uint64(n) || j.First() != 0 || j.Segments() != (n+most-1)/most {
				t.Fatalf("P7.2: most %d: %d to %d in %d segments behind %d records", most, j.First(), j.Next(), j.Segments(), n)
			}
		}
		var list []file
		for at := 0; at < len(all); at += most {
			list = append(list, file{fmt.Sprintf("l%010d", at), frames(t, all[at:min(at+most, len(all))]...)})
		}
		holds(t, "P7.2: segments", d, list...)
		stands(t, "P7.3: Records", j, 0, len(list), all...)
		reopened(t, "P7.1: Open", d, most, 0, len(list), all...)
	}
}

func TestRecordsOfAnyLength(t *testing.T) {
	d := newDisk(t, api.MaxDisk)
	j := must(t, d, 3)
	all := []string{"", "\x00", "\xa5", "", "two", string(frames(t, "a frame")), string(make([]byte, 200)), string(noise(api.MaxFrame, 7)), "", "end"}
	add(t, j, all...)
	stands(t, "P7.2: records of any length", j, 0, 4, all...)
	want(t, "P7.2: Append of one byte more than a frame may carry", j.Append(make([]byte, api.MaxFrame+1)), api.ErrFull)
	stands(t, "P7.2: refused", j, 0, 4, all...)
	reopened(t, "P7.1: records of any length", d, 3, 0, 4, all...)
	want(t, "P7.2: Append of nil", j.Append(nil), api.OK)
	stands(t, "P7.2: nil is a record of nothing", j, 0, 4, append(all, "")...)
}

// overDisk: a disk whose journal has come to this number, and has so many bytes of room.
func overDisk(t *testing.T, next uint64, room int) *disk.Disk {
	t.Helper()
	b := frames(t, "x")
	d := newDisk(t, len(b)+room)
	want(t, "Append", d.Append(fmt.Sprintf("l%010d", next-1), b), api.OK)
	return d
}

func TestAppendRefuses(t *testing.T) {
	long := make([]byte, api.MaxFrame+1)
	var none *Journal
	want(t, "P7.2: Append of too much to nil", none.Append(long), api.ErrNil)

	d := overDisk(t, 1<<32, 0)
	j := must(t, d, 5)
	want(t, "P7.2: Append: no number, no room", j.Append(nil), api.ErrOver)
	want(t, "P7.2: Append: too long, no number, no room", j.Append(long), api.ErrFull)
	d.Crash([]int{99})
	want(t, "P7.2: Append: too long, and the disk is down", j.Append(long), api.ErrFull)
	want(t, "P7.2: Append: the disk is down, no number, no room", j.Append(nil), api.ErrDown)
	stands(t, "P7.2: refused", j, 1<<32-1, 1, "x")

	d = overDisk(t, 5, 9)
	j = must(t, d, 5)
	want(t, "P7.2: Append: no room", j.Append(nil), api.ErrFull)
	d.Crash([]int{99})
	want(t, "P7.2: Append: the disk is down, no room", j.Append(nil), api.ErrDown)
}

func TestNumbersEnd(t *testing.T) {
	for _, most := range []int{1, 2, 5} {
		d := overDisk(t, 1<<32-1, 100)
		j := must(t, d, most)
		add(t, j, "last")
		want(t, "P7.2: Append: Next is 2^32", j.Append([]byte("more")), api.ErrOver)
		if j.First() != 1<<32-2 || j.Next() != 1<<32 || len(j.Records()) != 2 {
			t.Errorf("P7.2: the last number: %d to %d", j.First(), j.Next())
		}
		reopened(t, "P7.1: the last number", d, most, 1<<32-2, j.Segments(), "x", "last")
		want(t, "P7.2: Sync at the end", j.Sync(), api.OK)
		want(t, "P7.2: Trim at the end", j.Trim(1<<32), api.OK)
	}
	d := diskOf(t, file{"l9999999998", frames(t, "a")}, file{"l9999999999", frames(t, "b", "c")})
	j := must(t, d, 5)
	stands(t, "P7.1: numbers above the last one", j, 9999999998, 2, "a", "b", "c")
	want(t, "P7.2: Append: Next is above 2^32", j.Append(nil), api.ErrOver)
	want(t, "P7.2: Trim", j.Trim(9999999999), api.OK)
	stands(t, "P7.2: Trim of such", j, 9999999999, 1, "b", "c")
}

func TestRoom(t *testing.T) {
	for _, most := range []int{1, 2, 5} {
		for _, spare := range []int{0, 1} {
			room := len(frames(t, "one", "four"))
			d := newDisk(t, room+3-spare)
			want(t, "Append", d.Append("other", []byte("abc")), api.OK)
			j := must(t, d, most)
			add(t, j, "one")
			before := files(t, d)
			if spare == 1 {
				want(t, "P7.2: one byte less than there has to be", j.Append([]byte("four")), api.ErrFull)
				stands(t, "P7.2: no room", j, 0, 1, "one")
				holds(t, "P7.2: no room", d, before...)
				add(t, j, "thr")
			} else {
				add(t, j, "four")
			}
			want(t, "P7.2: no byte is left", j.Append(nil), api.ErrFull)
			want(t, "P7.2: no byte is left: Sync", j.Sync(), api.OK)
			if j.Next() != 2 || d.Used() != room+3-spare {
				t.Errorf("P7.2: just room: up to %d, %d bytes", j.Next(), d.Used())
			}
		}
	}
}

func TestNoRoomForFiles(t *testing.T) {
	d := newDisk(t, 100000)
	for k := range api.MaxFiles - 2 {
		want(t, "Append", d.Append(fmt.Sprint("f", k), nil), api.OK)
	}
	j := must(t, d, 2)
	add(t, j, "a", "b", "c")
	add(t, j, "d")
	want(t, "P7.2: Append: no more files", j.Append([]byte("e")), api.ErrFull)
	stands(t, "P7.2: no more files", j, 0, 2, "a", "b", "c", "d")
	want(t, "P7.2: Trim", j.Trim(2), api.OK)
	add(t, j, "e")
	stands(t, "P7.2: room for a file again", j, 2, 2, "c", "d", "e")
}

// Each number that one may trim to, in journals of segments of any length, the last one just full or not.
func TestTrim(t *testing.T) {
	for _, most := range []int{1, 2, 3, 9} {
		for size := range 9 {
			all := letters(size)
			d := newDisk(t, 10000)
			start := must(t, d, most)
			add(t, start, all...)
			for n := range size + 3 {
				d := d.Fork()
				j := must(t, d, most)
				if n > size {
					want(t, "P7.2: Trim above Next", j.Trim(uint64(n)), api.ErrArg)
					stands(t, "P7.2: Trim above Next", j, 0, start.Segments(), all...)
					continue
				}
				want(t, "P7.2: Trim", j.Trim(uint64(n)), api.OK)
				first := min(n/most, max(start.Segments()-1, 0)) * most
				what := fmt.Sprintf("P7.2: Trim(%d) of %d, most %d", n, size, most)
				stands(t, what, j, uint64(first), start.Segments()-first/most, all[first:]...)
				names, _ := d.Names()
				if len(names) != j.Segments() || len(names) > 0 && names[0] != fmt.Sprintf("l%010d", first) {
					t.Errorf("%s: files %v", what, names)
				}
				reopened(t, what, d, most, j.First(), j.Segments(), all[first:]...)
				add(t, j, "more", "and more")
				reopened(t, what+" and on", d, most, j.First(), j.Segments(), append(all[first:len(all):len(all)], "more", "and more")...)
			}
		}
	}
}

func TestTrimByTrim(t *testing.T) {
	d := newDisk(t, 10000)
	j := must(t, d, 2)
	add(t, j, letters(7)...)
	want(t, "P7.2: Trim(0)", j.Trim(0), api.OK)
	stands(t, "P7.2: Trim to First", j, 0, 4, letters(7)...)
	want(t, "P7.2: Trim(5)", j.Trim(5), api.OK)
	stands(t, "P7.2: Trim(5)", j, 4, 2, "e", "f", "g")
	want(t, "P7.2: Trim(3)", j.Trim(3), api.OK)
	want(t, "P7.2: Trim to First", j.Trim(4), api.OK)
	stands(t, "P7.2: Trim below First", j, 4, 2, "e", "f", "g")
	want(t, "P7.2: Trim above Next", j.Trim(8), api.ErrArg)
	want(t, "P7.2: Trim far above Next", j.Trim(math.MaxUint64), api.ErrArg)
	want(t, "P7.2: Trim to Next", j.Trim(7), api.OK)
	stands(t, "P7.2: Trim to Next", j, 6, 1, "g")
	empty := must(t, newDisk(t, 100), 2)
	want(t, "P7.2: Trim of none", empty.Trim(0), api.OK)
	want(t, "P7.2: Trim of none above Next", empty.Trim(1), api.ErrArg)
	want(t, "P7.2: Sync of none", empty.Sync(), api.OK)
	stands(t, "P7.2: none", empty, 0, 0)
}

func TestBadDisks(t *testing.T) {
	two, one := frames(t, "a", "b"), frames(t, "c")
	turned := bytes.Clone(one)
	turned[ownBytes-1] ^= 1
	mark := bytes.Clone(one)
	mark[len(mark)-1] = 1
	for _, row := range []struct {
		what string
		list []file
	}{
		{"l alone", []file{{"l", nil}}},
		{"one digit", []file{{"l1", nil}}},
		{"nine digits", []file{{"l000000000", two}}},
		{"eleven digits", []file{{"l00000000000", two}}},
		{"fifteen digits", []file{{"l000000000000000", two}}},
		{"a letter", []file{{"l000000000a", two}}},
		{"a letter first", []file{{"lx000000000", two}}},
		{"a point", []file{{"l00000000.0", two}}},
		{"a word", []file{{"log", nil}}},
		{"a word behind a segment", []file{{"l0000000000", two}, {"log", nil}}},
		{"a word behind segments ahead of other files", []file{{"l0000000000", two}, {"lz", nil}, {"m", nil}}},
		{"a gap", []file{{"l0000000000", two}, {"l0000000003", one}}},
		{"a number that is there", []file{{"l0000000000", two}, {"l0000000001", one}}},
		{"a gap further on", []file{{"l0000000000", two}, {"l0000000002", one}, {"l0000000004", one}}},
		{"a gap, the last one empty", []file{{"l0000000000", two}, {"l0000000003", nil}}},
		{"none in the first", []file{{"l0000000000", nil}, {"l0000000001", one}}},
		{"none in one between", []file{{"l0000000000", two}, {"l0000000002", nil}, {"l0000000003", one}}},
		{"a first byte in the only one", []file{{"l0000000000", []byte{1}}}},
		{"a first byte in the last one", []file{{"l0000000000", two}, {"l0000000002", []byte{1}}}},
		{"a first byte behind frames", []file{{"l0000000000", append(bytes.Clone(two), 1)}}},
		{"an end mark in the last one", []file{{"l0000000000", two}, {"l0000000002", mark}}},
		{"a sum in the last one", []file{{"l0000000000", two}, {"l0000000002", turned}}},
		{"a sum behind a frame", []file{{"l0000000000", append(bytes.Clone(two), turned...)}}},
		{"a sum in another one", []file{{"l0000000000", turned}, {"l0000000001", one}}},
		{"a sum behind the frames of another one", []file{{"l0000000000", append(bytes.Clone(two), turned...)}, {"l0000000002", one}}},
		{"noughts behind another one", []file{{"l0000000000", append(bytes.Clone(two), 0, 0)}, {"l0000000002", one}}},
		{"a part behind another one", []file{{"l0000000000", append(bytes.Clone(two), one[:7]...)}, {"l0000000002", one}}},
		{"a part behind another one, the last one empty", []file{{"l0000000000", append(bytes.Clone(two), 0xa5)}, {"l0000000002", nil}}},
		{"a part in one between", []file{{"l0000000000", two}, {"l0000000002", append(bytes.Clone(one), 0)}, {"l0000000003", one}}},
	} {
		d := diskOf(t, row.list...)
		if j, e := Open(d, 5); j != nil || e != api.ErrBad {
			t.Errorf("P7.1: Open: %s: %v, error %d; want nil, ErrBad", row.what, j, e)
		}
		slices.SortFunc(row.list, func(a, b file) int { return bytes.Compare([]byte(a.name), []byte(b.name)) })
		holds(t, "R4: a refused disk: "+row.what, d, row.list...)
	}
}

func TestOtherFiles(t *testing.T) {
	others := []file{{"0l", []byte{1, 2}}, {"a", nil}, {"k9999999999", []byte("k")}, {"m0000000001", []byte{9}}, {"s0", frames(t, "s")}, {"zl0000000000", []byte{0xa5}}}
	d := diskOf(t, append(others, file{"l0000000007", frames(t, "x", "y")})...)
	j := must(t, d, 2)
	stands(t, "P7.1: other files beside", j, 7, 1, "x", "y")
	add(t, j, "z")
	want(t, "P7.2: Sync", j.Sync(), api.OK)
	want(t, "P7.2: Trim", j.Trim(9), api.OK)
	holds(t, "P7.1: other files beside", d, others[0], others[1], others[2], file{"l0000000009", frames(t, "z")}, others[3], others[4], others[5])
	stands(t, "P7.1: other files alone", must(t, diskOf(t, others...), 2), 0, 0)
}

// What is behind the last whole frame, whatever part of a frame it is, with noughts behind or without.
func TestTornEnd(t *testing.T) {
	next := frames(t, string(noise(60, 3)))
	for cut := range len(next) {
		for _, noughts := range []int{0, 1, 64} {
			torn := append(bytes.Clone(next[:cut]), make([]byte, noughts)...)
			what := fmt.Sprintf("P7.1: %d bytes and %d noughts behind", cut, noughts)

			d := diskOf(t, file{"l0000000003", append(frames(t, "a", "b"), torn...)})
			stands(t, what+" the only one", must(t, d, 3), 3, 1, "a", "b")
			holds(t, what+" the only one", d, file{"l0000000003", frames(t, "a", "b")})

			d = diskOf(t, file{"l0000000000", frames(t, "a", "b")}, file{"l0000000002", append(frames(t, "c"), torn...)})
			j := must(t, d, 2)
			stands(t, what+" the last one", j, 0, 2, "a", "b", "c")
			holds(t, what+" the last one", d, file{"l0000000000", frames(t, "a", "b")}, file{"l0000000002", frames(t, "c")})
			add(t, j, "d", "e")
			reopened(t, what+" the last one, and on", d, 2, 0, 3, "a", "b", "c", "d", "e")

			d = diskOf(t, file{"l0000000005", torn})
			j = must(t, d, 2)
			stands(t, what+" nothing", j, 5, 1)
			holds(t, what+" nothing", d, file{"l0000000005", nil})
			reopened(t, what+" nothing, again", d, 2, 5, 1)
			add(t, j, "f", "g", "h")
			reopened(t, what+" nothing, and on", d, 2, 5, 2, "f", "g", "h")

			d = diskOf(t, file{"l0000000000", frames(t, "a", "b")}, file{"l0000000002", torn})
			j = must(t, d, 2)
			if j.First() != 0 || j.Next() != 2 || !slices.Equal(texts(j.Records()), letters(2)) {
				t.Errorf("%s nothing, the last one: %d to %d, %q", what, j.First(), j.Next(), texts(j.Records()))
			}
			for _, f := range files(t, d)[1:] {
				if len(f.data) > 0 {
					t.Errorf("%s nothing, the last one: %v is left", what, f)
				}
			}
			add(t, j, "c")
			reopened(t, what+" nothing, the last one, and on", d, 2, 0, 2, "a", "b", "c")
		}
	}
}

// A last segment without a record goes with a fall: it must not be what is left of a journal.
func TestTrimToAnEmptyEnd(t *testing.T) {
	d := diskOf(t, file{"l0000000000", frames(t, "a", "b")}, file{"l0000000002", []byte{0xa5, 0}})
	j := must(t, d, 2)
	want(t, "P7.2: Trim to Next", j.Trim(2), api.OK)
	first := j.First()
	fall(t, d)
	if k := must(t, d, 2); k.First() != first || k.Next() != 2 {
		t.Errorf("P7.4: %d to %d; want %d to 2", k.First(), k.Next(), first)
	}
}

func TestSync(t *testing.T) {
	for _, most := range []int{1, 2, 3, 50} {
		for size := range 12 {
			d := newDisk(t, 10000)
			j := must(t, d, most)
			add(t, j, letters(size)...)
			want(t, "P7.2: Sync", j.Sync(), api.OK)
			for more := range 3 {
				f := d.Fork()
				fall(t, f)
				k := must(t, f, most)
				if got := texts(k.Records()); k.First() != 0 || len(got) < size || !slices.Equal(got[:size], letters(size)) {
					t.Errorf("P7.2: most %d, Sync of %d, and %d more: from %d on %q", most, size, more, k.First(), got)
				}
				add(t, j, "more")
			}
		}
	}
}

// Segments that nobody has made safe yet, found by an Open, are it behind a Sync, a new segment or a Trim.
func TestSyncOfWhatWasFound(t *testing.T) {
	loose := func() *disk.Disk {
		d := newDisk(t, 10000)
		want(t, "Append", d.Append("l0000000000", frames(t, "a", "b")), api.OK)
		want(t, "Append", d.Append("l0000000002", frames(t, "c", "d")), api.OK)
		want(t, "Append", d.Append("l0000000004", frames(t, "e")), api.OK)
		return d
	}
	d := loose()
	want(t, "P7.2: Sync", must(t, d, 2).Sync(), api.OK)
	fall(t, d)
	reopened(t, "P7.2: Sync of what was found", d, 2, 0, 3, letters(5)...)

	d = loose()
	add(t, must(t, d, 1), "f")
	fall(t, d)
	reopened(t, "P7.4: a new segment behind what was found", d, 2, 0, 3, letters(5)...)

	d = loose()
	want(t, "P7.2: Trim", must(t, d, 2).Trim(3), api.OK)
	fall(t, d)
	reopened(t, "P7.4: a Trim of what was found", d, 2, 2, 2, "c", "d", "e")
}

func TestOpenedAgain(t *testing.T) {
	d := newDisk(t, 10000)
	j := must(t, d, 3)
	add(t, j, letters(5)...)
	for _, most := range []int{3, 1, 2, 5, 1000} {
		j = must(t, d, most)
		stands(t, "P7.1: opened again", j, 0, 2, letters(5)...)
	}
	add(t, must(t, d, 2), "f")
	stands(t, "P7.1: a last one that has most", must(t, d, 3), 0, 3, letters(6)...)
	add(t, must(t, d, 1), "g")
	add(t, must(t, d, 1000), "h", "i")
	stands(t, "P7.1: opened with another most", must(t, d, 2), 0, 4, letters(9)...)
	add(t, must(t, d, 2), "j")
	holds(t, "P7.1: opened with another most", d,
		file{"l0000000000", frames(t, "a", "b", "c")}, file{"l0000000003", frames(t, "d", "e")}, file{"l0000000005", frames(t, "f")},
		file{"l0000000006", frames(t, "g", "h", "i")}, file{"l0000000009", frames(t, "j")})
	j = must(t, d, 7)
	want(t, "P7.2: Trim", j.Trim(8), api.OK)
	stands(t, "P7.2: Trim of segments of any length", j, 6, 2, "g", "h", "i", "j")
}

// A segment that has more records than most, by an elder most, is full.
func TestMoreThanMost(t *testing.T) {
	d := diskOf(t, file{"l0000000000", frames(t, letters(6)...)})
	j := must(t, d, 2)
	add(t, j, "g")
	stands(t, "P7.1: more than most", j, 0, 2, letters(7)...)
	holds(t, "P7.1: more than most", d, file{"l0000000000", frames(t, letters(6)...)}, file{"l0000000006", frames(t, "g")})
}

// errorsOf: what the calls with an error answer, each to a journal of its own that is alike.
func errorsOf(t *testing.T, what string, make func() *Journal, e api.Errno) {
	t.Helper()
	long := bytes.Repeat([]byte{1}, api.MaxFrame+1)
	want(t, what+": Append", make().Append(nil), e)
	want(t, what+": Append of too much", make().Append(long), e)
	want(t, what+": Sync", make().Sync(), e)
	want(t, what+": Trim(0)", make().Trim(0), e)
	want(t, what+": Trim to Next", make().Trim(make().Next()), e)
	want(t, what+": Trim above Next", make().Trim(math.MaxUint64), e)
}

func TestDownForGood(t *testing.T) {
	calls := []struct {
		what string
		do   func(j *Journal) api.Errno
	}{
		{"Append", func(j *Journal) api.Errno { return j.Append([]byte("e")) }},
		{"Sync", func(j *Journal) api.Errno { return j.Sync() }},
		{"Trim", func(j *Journal) api.Errno { return j.Trim(3) }},
		{"Trim of nothing", func(j *Journal) api.Errno { return j.Trim(0) }},
	}
	for _, c := range calls {
		for _, armed := range []bool{true, false} {
			if armed && c.what == "Trim of nothing" {
				continue
			}
			d := newDisk(t, 10000)
			j := must(t, d, 2)
			add(t, j, letters(3)...)
			if armed {
				d.Arm(1)
			} else {
				d.Crash([]int{99})
			}
			want(t, "P7.2: "+c.what+" of a disk that goes down, or is", c.do(j), api.ErrDown)
			stands(t, "R4: "+c.what+" answered ErrDown", j, 0, 2, letters(3)...)
			errorsOf(t, "P7.2: behind "+c.what, func() *Journal { return j }, api.ErrDown)
			d.Start()
			before := files(t, d)
			errorsOf(t, "P7.2: behind "+c.what+", and a Start", func() *Journal { return j }, api.ErrDown)
			holds(t, "P7.2: behind ErrDown nothing is done", d, before...)
			stands(t, "P7.3: behind "+c.what, j, 0, 2, letters(3)...)
		}
	}
}

// Trim of a disk that is down: its own error is named first.
func TestTrimRefuses(t *testing.T) {
	var none *Journal
	want(t, "P7.2: Trim of nil", none.Trim(math.MaxUint64), api.ErrNil)
	d := newDisk(t, 1000)
	j := must(t, d, 2)
	add(t, j, "a")
	d.Crash(nil)
	want(t, "P7.2: Trim above Next of a disk that is down", j.Trim(2), api.ErrArg)
	want(t, "P7.2: Trim of a disk that is down", j.Trim(1), api.ErrDown)
	want(t, "P7.2: Trim above Next behind ErrDown", j.Trim(2), api.ErrDown)
}

// A journal without a segment has nothing to ask its disk for, and yet is down with it.
func TestNoneOfADownDisk(t *testing.T) {
	errorsOfNone := func(what string, do func(j *Journal) api.Errno) {
		d := newDisk(t, 1000)
		j := must(t, d, 2)
		d.Crash(nil)
		want(t, "P7.2: "+what+" of none, on a disk that is down", do(j), api.ErrDown)
		d.Start()
		want(t, "P7.2: "+what+" of none, on a disk that was down", do(j), api.ErrDown)
		holds(t, "P7.2: "+what+" of none", d)
	}
	errorsOfNone("Append", func(j *Journal) api.Errno { return j.Append([]byte("a")) })
	errorsOfNone("Sync", func(j *Journal) api.Errno { return j.Sync() })
	errorsOfNone("Trim", func(j *Journal) api.Errno { return j.Trim(0) })
}

// With any other error a journal goes on.
func TestGoesOnBehindOtherErrors(t *testing.T) {
	d := newDisk(t, 4*(ownBytes+1))
	j := must(t, d, 2)
	add(t, j, "a", "b", "c", "d")
	want(t, "P7.2: Append: no room", j.Append([]byte("e")), api.ErrFull)
	want(t, "P7.2: Append: too long", j.Append(make([]byte, api.MaxFrame+1)), api.ErrFull)
	want(t, "P7.2: Trim above Next", j.Trim(5), api.ErrArg)
	stands(t, "P7.2: refused", j, 0, 2, letters(4)...)
	want(t, "P7.2: Sync", j.Sync(), api.OK)
	want(t, "P7.2: Trim", j.Trim(2), api.OK)
	add(t, j, "e", "f")
	stands(t, "P7.2: room again", j, 2, 2, "c", "d", "e", "f")
}

func TestNil(t *testing.T) {
	for _, j := range []*Journal{nil, {}} {
		errorsOf(t, "P7.3: nil", func() *Journal { return j }, api.ErrNil)
		stands(t, "P7.3: nil", j, 0, 0)
	}
}

func TestOwnMemory(t *testing.T) {
	d := newDisk(t, 10000)
	j := must(t, d, 2)
	room := []byte("record and room")
	for range 3 {
		want(t, "P7.2: Append", j.Append(room[:6]), api.OK)
	}
	if string(room) != "record and room" {
		t.Errorf("R3: what was handed in is changed: %q", room)
	}
	copy(room, "others")
	stands(t, "R3: what was handed in is written into", j, 0, 2, "record", "record", "record")
	list := j.Records()
	for i := range list {
		list[i] = append(list[i], "!!!!"...)
		copy(list[i], "OTHERS")
	}
	stands(t, "R3: what was handed out is written into", j, 0, 2, "record", "record", "record")
	k := must(t, d, 2)
	list = k.Records()
	copy(list[0], "OTHERS")
	if string(list[1]) != "record" || string(list[2]) != "record" {
		t.Errorf("R3: two records of one answer share memory: %q", list)
	}
	stands(t, "R3: what was handed out is written into", k, 0, 2, "record", "record", "record")
	again := k.Records()
	again[0], again[1] = nil, nil
	stands(t, "R3: the list is the caller's own", k, 0, 2, "record", "record", "record")
	reopened(t, "R3: the disk", d, 2, 0, 2, "record", "record", "record")
}
