package disk

import (
	"bytes"
	"math"
	"slices"
	"strings"
	"testing"

	"hansom/api"
)

// noise: bytes that look like chance but are never 0, so that noughts are told from them; the same ones each time, from a seed that is not 0.
func noise(n int, seed uint64) []byte {
	out := make([]byte, n)
	for i := range out {
		seed ^= seed << 13
		seed ^= seed >> 7
		seed ^= seed << 17
		out[i] = byte(seed>>32) | 1
	}
	return out
}

// must: a disk of that size.
func must(t *testing.T, size int) *Disk {
	t.Helper()
	d, e := New(size)
	if d == nil || e != api.OK {
		t.Fatalf("P5.1: New(%d): %v, error %d; want a disk, OK", size, d, e)
	}
	return d
}

// want: a call has answered this.
func want(t *testing.T, what string, got, e api.Errno) {
	t.Helper()
	if got != e {
		t.Errorf("%s: error %d; want %d", what, got, e)
	}
}

// lay: a disk of 5,000 bytes that has a file: so many bytes that are safe, and more that are not.
func lay(t *testing.T, name string, safe, loose []byte) *Disk {
	t.Helper()
	d := must(t, 5000)
	layOn(t, d, name, safe, loose)
	return d
}

// layOn: one more such file.
func layOn(t *testing.T, d *Disk, name string, safe, loose []byte) {
	t.Helper()
	want(t, "P5.1: Append "+name, d.Append(name, safe), api.OK)
	want(t, "P5.1: Sync "+name, d.Sync(name), api.OK)
	want(t, "P5.1: Append "+name, d.Append(name, loose), api.OK)
}

// shot: a file's name, and its bytes.
type shot struct {
	name string
	data []byte
}

// shots: the files of a disk that is up.
func shots(t *testing.T, d *Disk) []shot {
	t.Helper()
	list, e := d.Names()
	want(t, "P5.1: Names", e, api.OK)
	var out []shot
	for _, name := range list {
		b, e := d.Read(name)
		want(t, "P5.1: Read "+name, e, api.OK)
		out = append(out, shot{name, b})
	}
	return out
}

// alike: two lists of files are the same.
func alike(a, b []shot) bool {
	return slices.EqualFunc(a, b, func(x, y shot) bool {
		return x.name == y.name && bytes.Equal(x.data, y.data)
	})
}

// holds: a disk that is up has just these files.
func holds(t *testing.T, what string, d *Disk, files ...shot) {
	t.Helper()
	if d.Down() {
		t.Errorf("%s: the disk is down", what)
		return
	}
	if got := shots(t, d); !alike(got, files) {
		t.Errorf("%s: %v; want %v", what, got, files)
	}
	used := 0
	for _, f := range files {
		used += len(f.data)
	}
	if d.Used() != used {
		t.Errorf("%s: Used: %d; want %d", what, d.Used(), used)
	}
}

// leaves: a fork of the disk, fallen with these keeps and started, has just these files.
func leaves(t *testing.T, what string, d *Disk, keep []int, files ...shot) {
	t.Helper()
	f := d.Fork()
	want(t, what+": Crash", f.Crash(keep), api.OK)
	want(t, what+": Start", f.Start(), api.OK)
	holds(t, what, f, files...)
}

// text: a file of a text.
func text(name, data string) shot {
	return shot{name, []byte(data)}
}

func TestExample(t *testing.T) {
	d := must(t, 100)
	want(t, "P5.1: Append", d.Append("a", []byte("xyz")), api.OK)
	want(t, "P5.1: Sync", d.Sync("a"), api.OK)
	want(t, "P5.1: Append", d.Append("a", []byte("uv")), api.OK)
	want(t, "P5.3: Crash", d.Crash([]int{1}), api.OK)
	want(t, "P5.3: Start", d.Start(), api.OK)
	holds(t, "P5.3: the example", d, text("a", "xyzu\x00"))
}

func TestNew(t *testing.T) {
	for _, size := range []int{1, 2, 1000, api.MaxDisk - 1, api.MaxDisk} {
		d := must(t, size)
		holds(t, "P5.1: a new disk", d)
		want(t, "P5.1: Append of all there is room for", d.Append("a", make([]byte, size)), api.OK)
		want(t, "P5.1: Append of one more", d.Append("a", []byte{1}), api.ErrFull)
		want(t, "P5.1: Append of one more", d.Append("b", []byte{1}), api.ErrFull)
		if d.Used() != size {
			t.Errorf("P5.3: Used: %d; want %d", d.Used(), size)
		}
		want(t, "P5.1: Remove", d.Remove("a"), api.OK)
		want(t, "P5.1: Append of more than there is room for", d.Append("a", make([]byte, size+1)), api.ErrFull)
		holds(t, "P5.1: refused", d)
	}
	for _, size := range []int{0, -1, api.MaxDisk + 1, 1 << 31, math.MinInt, math.MaxInt} {
		if d, e := New(size); d != nil || e != api.ErrArg {
			t.Errorf("P5.1: New(%d): %v, error %d; want nil, ErrArg", size, d, e)
		}
	}
}

func TestFilesComeAndGo(t *testing.T) {
	d := must(t, 100)
	want(t, "P5.1: Append", d.Append("b", []byte("one")), api.OK)
	want(t, "P5.1: Append", d.Append("a", []byte("two")), api.OK)
	want(t, "P5.1: Append", d.Append("b", []byte("three")), api.OK)
	want(t, "P5.1: Append", d.Append("b", []byte{0, 0xff}), api.OK)
	holds(t, "P5.1: appended", d, text("a", "two"), text("b", "onethree\x00\xff"))
	want(t, "P5.1: Sync", d.Sync("b"), api.OK)
	holds(t, "P5.1: synced", d, text("a", "two"), text("b", "onethree\x00\xff"))
	want(t, "P5.1: Cut", d.Cut("b", 4), api.OK)
	holds(t, "P5.1: cut", d, text("a", "two"), text("b", "onet"))
	want(t, "P5.1: Append", d.Append("b", []byte("!")), api.OK)
	holds(t, "P5.1: appended to what was cut", d, text("a", "two"), text("b", "onet!"))
	want(t, "P5.1: Remove", d.Remove("b"), api.OK)
	holds(t, "P5.1: removed", d, text("a", "two"))
	want(t, "P5.1: Append", d.Append("b", []byte("new")), api.OK)
	holds(t, "P5.1: made anew", d, text("a", "two"), text("b", "new"))
	leaves(t, "P5.1: nothing is safe of one made anew", d, nil)
}

func TestNamesRise(t *testing.T) {
	rising := []string{".", "..", "0", "01", "1", "10", "2", "a", "a.", "a.1", "a0", "aa", "ab", "b", "l0000000000", "l0000000002", "s0", "s1", "z", "zz"}
	d := must(t, 100)
	for i := range rising {
		// 7 has no part in common with 20: each one comes once, out of order.
		want(t, "P5.1: Append", d.Append(rising[i*7%len(rising)], nil), api.OK)
	}
	for range 3 {
		if list, e := d.Names(); !slices.Equal(list, rising) || e != api.OK {
			t.Errorf("P5.1: Names: %v, error %d; want %v", list, e, rising)
		}
	}
	want(t, "P5.1: Remove", d.Remove("a"), api.OK)
	if list, e := d.Names(); !slices.Equal(list, slices.Concat(rising[:7], rising[8:])) || e != api.OK {
		t.Errorf("P5.1: Names behind a Remove: %v, error %d", list, e)
	}
}

// namers: the calls that are handed a name.
func namers() []struct {
	what string
	call func(*Disk, string) api.Errno
} {
	return []struct {
		what string
		call func(*Disk, string) api.Errno
	}{
		{"Append", func(d *Disk, name string) api.Errno { return d.Append(name, []byte{7}) }},
		{"Append of nothing", func(d *Disk, name string) api.Errno { return d.Append(name, nil) }},
		{"Append of too much", func(d *Disk, name string) api.Errno { return d.Append(name, make([]byte, 9999)) }},
		{"Sync", func(d *Disk, name string) api.Errno { return d.Sync(name) }},
		{"Read", func(d *Disk, name string) api.Errno {
			b, e := d.Read(name)
			if e != api.OK && b != nil {
				return -1
			}
			return e
		}},
		{"Cut at 0", func(d *Disk, name string) api.Errno { return d.Cut(name, 0) }},
		{"Cut below 0", func(d *Disk, name string) api.Errno { return d.Cut(name, -1) }},
		{"Remove", func(d *Disk, name string) api.Errno { return d.Remove(name) }},
	}
}

func TestNamesThatMayBe(t *testing.T) {
	const all = "abcdefghijklmnopqrstuvwxyz0123456789."
	good := []string{strings.Repeat("z", api.MaxName), strings.Repeat(".", api.MaxName), "l0000000000", "a.b.c", "0.9"}
	for i := range all {
		good = append(good, all[i:i+1], all[i:i+1]+"a", "a"+all[i:i+1])
	}
	for n := 1; n <= api.MaxName; n++ {
		good = append(good, all[:n])
	}
	for _, name := range good {
		d := must(t, 10)
		want(t, "P5.1: Append "+name, d.Append(name, []byte("12")), api.OK)
		want(t, "P5.1: Sync "+name, d.Sync(name), api.OK)
		want(t, "P5.1: Cut "+name, d.Cut(name, 1), api.OK)
		holds(t, "P5.1: the name "+name, d, text(name, "1"))
		want(t, "P5.1: Remove "+name, d.Remove(name), api.OK)
		holds(t, "P5.1: the name "+name+" removed", d)
	}
}

func TestNamesThatMayNotBe(t *testing.T) {
	bad := []string{"", strings.Repeat("a", api.MaxName+1), strings.Repeat("a", 1000), "é", "a\u00e9", "ａ"}
	for x := range 256 {
		if strings.IndexByte("abcdefghijklmnopqrstuvwxyz0123456789.", byte(x)) < 0 {
			c := string([]byte{byte(x)})
			bad = append(bad, c, c+"a", "a"+c, "a"+c+"a", strings.Repeat("a", api.MaxName-1)+c)
		}
	}
	d := lay(t, "a", []byte("xy"), []byte("z"))
	d.Arm(1)
	for _, name := range bad {
		for _, c := range namers() {
			if e := c.call(d, name); e != api.ErrArg {
				t.Errorf("P5.1: %s of the name %q: error %d; want ErrArg", c.what, name, e)
			}
		}
	}
	holds(t, "P5.1: refused", d, text("a", "xyz"))
	want(t, "P5.2: what is refused is not counted", d.Remove("a"), api.ErrDown)
}

func TestNoSuchFile(t *testing.T) {
	d := lay(t, "a", []byte("xy"), []byte("z"))
	d.Arm(1)
	for _, name := range []string{"b", "aa", ".", "0"} {
		want(t, "P5.1: Sync", d.Sync(name), api.ErrNone)
		want(t, "P5.1: Cut", d.Cut(name, 0), api.ErrNone)
		want(t, "P5.1: Cut below 0 of none", d.Cut(name, -1), api.ErrNone)
		want(t, "P5.1: Cut beyond of none", d.Cut(name, math.MaxInt), api.ErrNone)
		want(t, "P5.1: Remove", d.Remove(name), api.ErrNone)
		if b, e := d.Read(name); b != nil || e != api.ErrNone {
			t.Errorf("P5.1: Read of none: %x, error %d; want nil, ErrNone", b, e)
		}
	}
	holds(t, "P5.1: refused", d, text("a", "xyz"))
	want(t, "P5.2: what is refused is not counted", d.Sync("a"), api.ErrDown)
}

func TestJustFull(t *testing.T) {
	d := must(t, 10)
	want(t, "P5.1: Append", d.Append("a", make([]byte, 6)), api.OK)
	want(t, "P5.1: Append of one too many", d.Append("b", make([]byte, 5)), api.ErrFull)
	want(t, "P5.1: Append of one too many", d.Append("a", make([]byte, 5)), api.ErrFull)
	holds(t, "P5.1: refused", d, shot{"a", make([]byte, 6)})
	want(t, "P5.1: Append of what is left", d.Append("b", make([]byte, 4)), api.OK)
	for _, name := range []string{"a", "b", "c"} {
		want(t, "P5.1: Append to a full disk", d.Append(name, []byte{1}), api.ErrFull)
	}
	holds(t, "P5.1: full", d, shot{"a", make([]byte, 6)}, shot{"b", make([]byte, 4)})
	want(t, "P5.1: Append of nothing", d.Append("a", nil), api.OK)
	want(t, "P5.1: Append of nothing, a new file", d.Append("c", []byte{}), api.OK)
	holds(t, "P5.1: full", d, shot{"a", make([]byte, 6)}, shot{"b", make([]byte, 4)}, shot{"c", nil})
	want(t, "P5.1: Cut", d.Cut("a", 5), api.OK)
	want(t, "P5.1: Append of two, with room for one", d.Append("c", []byte{1, 2}), api.ErrFull)
	want(t, "P5.1: Append of one, with room for it", d.Append("c", []byte{1}), api.OK)
	want(t, "P5.1: Remove", d.Remove("b"), api.OK)
	want(t, "P5.1: Append of five, with room for four", d.Append("d", make([]byte, 5)), api.ErrFull)
	want(t, "P5.1: Append of four, with room for them", d.Append("d", make([]byte, 4)), api.OK)
	holds(t, "P5.1: full again", d, shot{"a", make([]byte, 5)}, shot{"c", []byte{1}}, shot{"d", make([]byte, 4)})
}

func TestRoomBehindAFall(t *testing.T) {
	d := must(t, 10)
	layOn(t, d, "a", []byte("12"), []byte("34567890"))
	d.Crash([]int{3})
	d.Start()
	holds(t, "P5.3: noughts up to where the file ended", d, text("a", "12345\x00\x00\x00\x00\x00"))
	want(t, "P5.1: noughts take room too", d.Append("a", []byte{1}), api.ErrFull)
	layOn(t, d, "b", nil, nil)
	d.Remove("a")
	want(t, "P5.1: Append", d.Append("c", make([]byte, 10)), api.OK)
	d.Crash(nil)
	d.Start()
	holds(t, "P5.3: nothing was safe", d)
	want(t, "P5.1: what is gone takes no room", d.Append("a", make([]byte, 10)), api.OK)
}

// numbered: a name for each number below 1,000.
func numbered(k int) string {
	return string([]byte{'f', byte('0' + k/100), byte('0' + k/10%10), byte('0' + k%10)})
}

func TestMostFiles(t *testing.T) {
	d := must(t, 10)
	for k := range api.MaxFiles {
		want(t, "P5.1: Append", d.Append(numbered(k), nil), api.OK)
	}
	d.Arm(2)
	want(t, "P5.1: one file more", d.Append("more", nil), api.ErrFull)
	want(t, "P5.1: one file more, with a byte", d.Append("more", []byte{1}), api.ErrFull)
	want(t, "P5.1: bytes for one that is there", d.Append(numbered(0), []byte{1}), api.OK)
	if list, _ := d.Names(); len(list) != api.MaxFiles {
		t.Errorf("P5.1: %d files; want %d", len(list), api.MaxFiles)
	}
	want(t, "P5.2: what is refused is not counted", d.Remove(numbered(1)), api.ErrDown)
	d.Start()
	if list, _ := d.Names(); len(list) != 0 {
		t.Errorf("P5.3: %v; want nothing, as nothing was safe", list)
	}
	for k := range api.MaxFiles {
		want(t, "P5.1: Append", d.Append(numbered(k), nil), api.OK)
	}
	want(t, "P5.1: Remove", d.Remove(numbered(5)), api.OK)
	want(t, "P5.1: one in place of one that went", d.Append("more", []byte{1}), api.OK)
	want(t, "P5.1: one file more", d.Append(numbered(5), nil), api.ErrFull)
	want(t, "P5.1: a bad name counts first", d.Append("More", nil), api.ErrArg)
}

func TestCut(t *testing.T) {
	safe, loose := noise(100, 3), noise(50, 5)
	whole := slices.Concat(safe, loose)
	for _, n := range []int{0, 1, 63, 64, 65, 99, 100, 101, 128, 149, 150} {
		d := lay(t, "a", safe, loose)
		layOn(t, d, "b", []byte("12"), []byte("3"))
		want(t, "P5.1: Cut", d.Cut("a", n), api.OK)
		holds(t, "P5.1: cut", d, shot{"a", whole[:n]}, text("b", "123"))
		for _, keep := range [][]int{nil, {0}, {1}, {9999}} {
			f := d.Fork()
			f.Crash(keep)
			f.Start()
			b, e := f.Read("a")
			if n == 0 && (b != nil || e != api.ErrNone) {
				t.Errorf("P5.3: cut at 0, and fallen: %x, error %d; want it to be gone, as nothing of it is safe", b, e)
			}
			if n > 0 && (!bytes.Equal(b, whole[:n]) || e != api.OK) {
				t.Errorf("P5.1: cut at %d, and fallen: %d bytes, error %d; want all of them, as they are safe", n, len(b), e)
			}
		}
		want(t, "P5.1: Append", d.Append("a", []byte("more")), api.OK)
		holds(t, "P5.1: appended to what was cut", d, shot{"a", append(slices.Clone(whole[:n]), "more"...)}, text("b", "123"))
	}
	d := lay(t, "a", safe, loose)
	d.Arm(1)
	for _, n := range []int{-1, 151, 5000, math.MinInt, math.MaxInt} {
		want(t, "P5.1: Cut below 0, or beyond the length", d.Cut("a", n), api.ErrArg)
	}
	holds(t, "P5.1: refused", d, shot{"a", whole})
	leaves(t, "P5.1: a Cut that is refused makes nothing safe", d, nil, shot{"a", slices.Concat(safe, make([]byte, 28))})
	want(t, "P5.2: what is refused is not counted", d.Cut("a", 150), api.ErrDown)
}

func TestCutOfNothing(t *testing.T) {
	d := must(t, 10)
	d.Append("a", nil)
	want(t, "P5.1: Cut at 0 of nothing", d.Cut("a", 0), api.OK)
	want(t, "P5.1: Cut at 1 of nothing", d.Cut("a", 1), api.ErrArg)
	holds(t, "P5.1: cut", d, shot{"a", nil})
}

func TestSyncMakesSafe(t *testing.T) {
	d := must(t, 1000)
	for _, name := range []string{"a", "b"} {
		d.Append(name, noise(70, 7))
	}
	want(t, "P5.1: Sync", d.Sync("b"), api.OK)
	leaves(t, "P5.1: one of two is synced", d, nil, shot{"b", noise(70, 7)})
	want(t, "P5.1: Sync again", d.Sync("b"), api.OK)
	d.Append("b", []byte("more"))
	leaves(t, "P5.1: what comes behind a Sync is not safe", d, nil, shot{"b", append(noise(70, 7), 0, 0, 0, 0)})
	want(t, "P5.1: Sync", d.Sync("a"), api.OK)
	want(t, "P5.1: Sync", d.Sync("b"), api.OK)
	leaves(t, "P5.1: both are synced", d, nil, shot{"a", noise(70, 7)}, shot{"b", append(noise(70, 7), "more"...)})
}

// hitters: calls that would be done, and so are hit, on a disk whose file a has five bytes.
func hitters() []struct {
	what string
	call func(*Disk) api.Errno
} {
	return []struct {
		what string
		call func(*Disk) api.Errno
	}{
		{"Append", func(d *Disk) api.Errno { return d.Append("a", []byte("++")) }},
		{"Append of nothing", func(d *Disk) api.Errno { return d.Append("a", nil) }},
		{"Append, a new file", func(d *Disk) api.Errno { return d.Append("new", []byte("++")) }},
		{"Sync", func(d *Disk) api.Errno { return d.Sync("a") }},
		{"Cut", func(d *Disk) api.Errno { return d.Cut("a", 1) }},
		{"Cut at the length", func(d *Disk) api.Errno { return d.Cut("a", 5) }},
		{"Remove", func(d *Disk) api.Errno { return d.Remove("a") }},
	}
}

func TestHit(t *testing.T) {
	for _, c := range hitters() {
		d := lay(t, "a", []byte("xyz"), []byte("uv"))
		want(t, "P5.2: Arm", d.Arm(1), api.OK)
		want(t, "P5.2: "+c.what+" that is hit", c.call(d), api.ErrDown)
		if !d.Down() {
			t.Errorf("P5.2: %s that is hit: the disk is up", c.what)
		}
		f := d.Fork()
		for range 2 {
			want(t, "P5.2: "+c.what+" behind it", c.call(d), api.ErrDown)
		}
		switch c.what {
		case "Append":
			leaves(t, "P5.2: Append that is hit is done", d, []int{99}, text("a", "xyzuv++"))
			leaves(t, "P5.2: Append that is hit is not safe", d, []int{3}, text("a", "xyzuv+\x00"))
			want(t, "P5.3: Start", f.Start(), api.OK)
			holds(t, "P5.3: Start without a Crash", f, text("a", "xyz\x00\x00\x00\x00"))
		case "Append, a new file":
			leaves(t, "P5.2: Append that is hit is done", d, []int{99}, text("a", "xyzuv"), text("new", "++"))
			want(t, "P5.3: Start", f.Start(), api.OK)
			holds(t, "P5.3: Start without a Crash", f, text("a", "xyz\x00\x00"))
		default:
			leaves(t, "P5.2: "+c.what+" that is hit does nothing", d, []int{99}, text("a", "xyzuv"))
			leaves(t, "P5.2: "+c.what+" that is hit does nothing", d, []int{1}, text("a", "xyzu\x00"))
			want(t, "P5.3: Start", f.Start(), api.OK)
			holds(t, "P5.3: Start without a Crash", f, text("a", "xyz\x00\x00"))
		}
		want(t, "P5.3: nothing is armed behind a Start", f.Append("a", []byte{1}), api.OK)
		want(t, "P5.3: nothing is armed behind a Start", f.Sync("a"), api.OK)
	}
}

func TestHitAppendOfNothing(t *testing.T) {
	d := lay(t, "a", []byte("xyz"), nil)
	d.Arm(1)
	want(t, "P5.2: Append of nothing, a new file, that is hit", d.Append("new", nil), api.ErrDown)
	if d.Used() != 3 {
		t.Errorf("P5.3: Used: %d; want 3", d.Used())
	}
	leaves(t, "P5.3: a file without bytes is gone", d, []int{99}, text("a", "xyz"))
}

func TestTheNthCallIsHit(t *testing.T) {
	for n := 1; n <= 12; n++ {
		d := lay(t, "a", []byte("xyz"), []byte("uv"))
		want(t, "P5.2: Arm", d.Arm(n), api.OK)
		for k := 1; k <= n; k++ {
			// What is not done, and what is not one of the four calls, is not counted.
			want(t, "P5.2: not done", d.Append("a", make([]byte, 9999)), api.ErrFull)
			want(t, "P5.2: not done", d.Append("A", nil), api.ErrArg)
			want(t, "P5.2: not done", d.Sync("b"), api.ErrNone)
			want(t, "P5.2: not done", d.Sync(""), api.ErrArg)
			want(t, "P5.2: not done", d.Cut("a", 9999), api.ErrArg)
			want(t, "P5.2: not done", d.Cut("b", 0), api.ErrNone)
			want(t, "P5.2: not done", d.Remove("b"), api.ErrNone)
			shots(t, d)
			d.Used()
			d.Down()
			d.Fork().Append("a", nil)
			var e api.Errno
			switch k % 4 {
			case 0:
				e = d.Append("a", []byte{1})
			case 1:
				e = d.Sync("a")
			case 2:
				e = d.Cut("a", 2)
			case 3:
				d.Fork().Remove("a")
				e = d.Append("a", nil)
			}
			if k < n {
				want(t, "P5.2: a call ahead of the one that is hit", e, api.OK)
			} else {
				want(t, "P5.2: the call that is hit", e, api.ErrDown)
			}
			if d.Down() != (k == n) {
				t.Errorf("P5.2: Arm(%d): Down behind call %d: %v", n, k, d.Down())
			}
		}
	}
}

func TestRemovesAreCounted(t *testing.T) {
	d := must(t, 10)
	for _, name := range []string{"a", "b", "c"} {
		layOn(t, d, name, []byte{1}, nil)
	}
	d.Arm(2)
	want(t, "P5.2: Remove", d.Remove("a"), api.OK)
	want(t, "P5.2: Remove of what is gone is not counted", d.Remove("a"), api.ErrNone)
	want(t, "P5.2: Remove that is hit", d.Remove("b"), api.ErrDown)
	d.Start()
	holds(t, "P5.2: Remove that is hit does nothing", d, shot{"b", []byte{1}}, shot{"c", []byte{1}})
}

func TestArmOfNone(t *testing.T) {
	for _, n := range []int{0, -1, -64, math.MinInt} {
		d := lay(t, "a", []byte("xyz"), nil)
		want(t, "P5.2: Arm", d.Arm(n), api.OK)
		for range 200 {
			want(t, "P5.2: nothing is hit", d.Append("a", []byte{1}), api.OK)
			want(t, "P5.2: nothing is hit", d.Sync("a"), api.OK)
		}
		d = lay(t, "a", []byte("xyz"), nil)
		d.Arm(1)
		want(t, "P5.2: Arm behind an elder one", d.Arm(n), api.OK)
		want(t, "P5.2: nothing is hit any more", d.Sync("a"), api.OK)
		want(t, "P5.2: nothing is hit any more", d.Remove("a"), api.OK)
	}
	d := lay(t, "a", []byte("xyz"), nil)
	want(t, "P5.2: Arm", d.Arm(math.MaxInt), api.OK)
	for range 200 {
		want(t, "P5.2: nothing is hit yet", d.Sync("a"), api.OK)
	}
}

func TestLaterArmCounts(t *testing.T) {
	d := lay(t, "a", []byte("xyz"), nil)
	d.Arm(2)
	d.Arm(3)
	want(t, "P5.2: the first", d.Sync("a"), api.OK)
	want(t, "P5.2: the second, at which the elder one was", d.Sync("a"), api.OK)
	want(t, "P5.2: the third", d.Sync("a"), api.ErrDown)
	d.Start()
	d.Arm(5)
	want(t, "P5.2: the first", d.Sync("a"), api.OK)
	d.Arm(2)
	want(t, "P5.2: the first behind the later Arm", d.Sync("a"), api.OK)
	want(t, "P5.2: the second behind it", d.Sync("a"), api.ErrDown)
	d.Start()
	for range 10 {
		want(t, "P5.3: nothing is armed behind a Start", d.Sync("a"), api.OK)
	}
}

func TestArmedWhileDown(t *testing.T) {
	d := lay(t, "a", []byte("xyz"), nil)
	d.Crash(nil)
	want(t, "P5.2: Arm of a disk that is down", d.Arm(1), api.OK)
	want(t, "P5.1: Sync", d.Sync("a"), api.ErrDown)
	want(t, "P5.3: Start", d.Start(), api.OK)
	want(t, "P5.3: nothing is armed behind a Start", d.Sync("a"), api.OK)
	d.Arm(1)
	want(t, "P5.3: Start of a disk that is up", d.Start(), api.OK)
	want(t, "P5.3: nothing is armed behind a Start", d.Sync("a"), api.OK)
	d.Arm(1)
	d.Crash(nil)
	want(t, "P5.3: Start", d.Start(), api.OK)
	want(t, "P5.3: nothing is armed behind a Start", d.Sync("a"), api.OK)
}

// isDown: every call of the disk answers as one that is down does, and changes nothing.
func isDown(t *testing.T, what string, d *Disk, used int) {
	t.Helper()
	for _, name := range []string{"a", "none", "", "A", strings.Repeat("a", 99)} {
		for _, c := range namers() {
			want(t, what+": "+c.what, c.call(d, name), api.ErrDown)
		}
	}
	if list, e := d.Names(); list != nil || e != api.ErrDown {
		t.Errorf("%s: Names: %v, error %d; want nil, ErrDown", what, list, e)
	}
	if !d.Down() || d.Used() != used {
		t.Errorf("%s: Down %v, Used %d; want true, %d", what, d.Down(), d.Used(), used)
	}
}

func TestDown(t *testing.T) {
	d := lay(t, "a", []byte("xyz"), []byte("uv"))
	d.Arm(1)
	d.Sync("a")
	isDown(t, "P5.1: hit", d, 5)
	leaves(t, "P5.1: hit, and asked for all", d, []int{9}, text("a", "xyzuv"))
	want(t, "P5.3: Crash of a disk that is down", d.Crash([]int{1}), api.OK)
	isDown(t, "P5.3: hit, and crashed", d, 5)
	want(t, "P5.3: Start", d.Start(), api.OK)
	holds(t, "P5.3: started", d, text("a", "xyzu\x00"))
	d.Append("a", noise(200, 3))
	want(t, "P5.3: Crash of a disk that is up", d.Crash([]int{5}), api.OK)
	isDown(t, "P5.3: crashed", d, 64)
	want(t, "P5.3: Start", d.Start(), api.OK)
	holds(t, "P5.3: started", d, shot{"a", slices.Concat([]byte("xyzu\x00"), noise(5, 3), make([]byte, 54))})
}

func TestCrashOfSafeFiles(t *testing.T) {
	for _, n := range []int{1, 63, 64, 65, 127, 128, 129} {
		for _, keep := range [][]int{nil, {}, {0}, {-1}, {1}, {math.MaxInt}} {
			leaves(t, "P5.3: all is safe", lay(t, "a", noise(n, 3), nil), keep, shot{"a", noise(n, 3)})
		}
	}
	leaves(t, "P5.3: no files", must(t, 10), []int{1, 2})
}

func TestNoughts(t *testing.T) {
	rows := []struct {
		safe, loose, keep int
		stay, end         int
	}{
		// Nothing is safe.
		{0, 10, 1, 1, 10},
		{0, 10, 9, 9, 10},
		{0, 63, 1, 1, 63},
		{0, 64, 1, 1, 64},
		{0, 65, 1, 1, 64},
		{0, 200, 1, 1, 64},
		{0, 200, 63, 63, 64},
		{0, 200, 64, 64, 64},
		{0, 200, 65, 65, 128},
		{0, 200, 127, 127, 128},
		{0, 200, 128, 128, 128},
		{0, 200, 129, 129, 192},
		{0, 200, 192, 192, 192},
		{0, 200, 193, 193, 200},
		{0, 200, 199, 199, 200},
		{0, 200, 200, 200, 200},
		{0, 192, 129, 129, 192},
		{0, 192, 191, 191, 192},
		{0, 192, 192, 192, 192},
		// What is safe ends within a sector: it is counted with what stays.
		{3, 2, 0, 3, 5},
		{3, 2, 1, 4, 5},
		{3, 2, 2, 5, 5},
		{60, 200, 0, 60, 64},
		{60, 200, 3, 63, 64},
		{60, 200, 4, 64, 64},
		{60, 200, 5, 65, 128},
		{60, 4, 0, 60, 64},
		{60, 4, 3, 63, 64},
		{60, 5, 4, 64, 64},
		{60, 5, 3, 63, 64},
		{70, 10, 1, 71, 80},
		{100, 1000, 0, 100, 128},
		{100, 1000, 27, 127, 128},
		{100, 1000, 28, 128, 128},
		{100, 1000, 29, 129, 192},
		// It ends with one: without bytes that stay, no noughts.
		{64, 200, 0, 64, 64},
		{64, 200, 1, 65, 128},
		{64, 1, 0, 64, 64},
		{128, 64, 0, 128, 128},
		{128, 64, 63, 191, 192},
		// Numbers below 0 and beyond.
		{3, 2, -1, 3, 5},
		{3, 2, math.MinInt, 3, 5},
		{64, 9, math.MinInt, 64, 64},
		{3, 2, 3, 5, 5},
		{3, 200, 201, 203, 203},
		{3, 200, math.MaxInt, 203, 203},
		{0, 200, math.MaxInt, 200, 200},
	}
	for _, r := range rows {
		safe, loose := noise(r.safe, 11), noise(r.loose, 13)
		data := slices.Concat(slices.Concat(safe, loose)[:r.stay], make([]byte, r.end-r.stay))
		d := lay(t, "a", safe, loose)
		leaves(t, "P5.3: a fall", d, []int{r.keep}, shot{"a", data})
		if r.keep == 0 {
			leaves(t, "P5.3: a fall without keeps", d, nil, shot{"a", data})
			leaves(t, "P5.3: a fall without keeps", d, []int{}, shot{"a", data})
		}
		d.Crash([]int{r.keep})
		if d.Used() != r.end {
			t.Errorf("P5.3: %d safe, %d not, keep %d: Used %d; want %d", r.safe, r.loose, r.keep, d.Used(), r.end)
		}
		d.Crash(nil)
		d.Crash([]int{9999})
		d.Start()
		holds(t, "P5.3: all that is there behind a fall is safe", d, shot{"a", data})
		leaves(t, "P5.3: all that is there behind a Start is safe", d, nil, shot{"a", data})
	}
}

func TestNothingSafeNothingStays(t *testing.T) {
	for _, loose := range []int{0, 1, 63, 64, 65, 500} {
		for _, keep := range [][]int{nil, {0}, {-1}, {math.MinInt}} {
			d := lay(t, "b", nil, noise(loose, 3))
			leaves(t, "P5.3: nothing is safe, nothing stays", d, keep)
			layOn(t, d, "a", []byte("x"), nil)
			layOn(t, d, "c", []byte("y"), nil)
			leaves(t, "P5.3: nothing is safe of the middle one, nothing stays", d, keep, text("a", "x"), text("c", "y"))
			d.Crash(keep)
			if d.Used() != 2 {
				t.Errorf("P5.3: Used: %d; want 2", d.Used())
			}
			d.Start()
			want(t, "P5.1: it is gone", d.Sync("b"), api.ErrNone)
		}
	}
	d := must(t, 10)
	layOn(t, d, "a", nil, nil)
	layOn(t, d, "b", []byte("x"), nil)
	d.Cut("b", 0)
	leaves(t, "P5.3: files without bytes, synced or cut, are gone", d, []int{9, 9})
	holds(t, "P5.1: while nothing falls they are there", d, shot{"a", nil}, shot{"b", nil})
}

// fiveFiles: five files by rising names, each with one safe byte and nine that are not, of which a fall leaves noughts.
func fiveFiles(t *testing.T) *Disk {
	d := must(t, 1000)
	for _, k := range []int{3, 1, 4, 0, 2} {
		layOn(t, d, string(rune('a'+k)), []byte{byte('a' + k)}, bytes.Repeat([]byte{byte('A' + k)}, 9))
	}
	return d
}

// kept: what a fall leaves of the k-th of these files, if so many bytes stay.
func kept(k, n int) shot {
	data := slices.Concat([]byte{byte('a' + k)}, bytes.Repeat([]byte{byte('A' + k)}, n), make([]byte, 9-n))
	return shot{string(rune('a' + k)), data}
}

func TestKeepsInTurn(t *testing.T) {
	rows := []struct {
		keep []int
		stay [5]int
	}{
		{nil, [5]int{0, 0, 0, 0, 0}},
		{[]int{}, [5]int{0, 0, 0, 0, 0}},
		{[]int{3}, [5]int{3, 3, 3, 3, 3}},
		{[]int{1, 2}, [5]int{1, 2, 1, 2, 1}},
		{[]int{1, -2}, [5]int{1, 0, 1, 0, 1}},
		{[]int{1, 2, 3}, [5]int{1, 2, 3, 1, 2}},
		{[]int{100, 0, 8, 9}, [5]int{9, 0, 8, 9, 9}},
		{[]int{1, 2, 3, 4, 5}, [5]int{1, 2, 3, 4, 5}},
		{[]int{1, 2, 3, 4, 5, 6, 7}, [5]int{1, 2, 3, 4, 5}},
		{[]int{math.MinInt, math.MaxInt}, [5]int{0, 9, 0, 9, 0}},
	}
	for _, r := range rows {
		var files []shot
		for k, n := range r.stay {
			files = append(files, kept(k, n))
		}
		leaves(t, "P5.3: keeps in turn", fiveFiles(t), r.keep, files...)
	}
}

func TestFilesThatAreGoneHaveTheirTurn(t *testing.T) {
	d := fiveFiles(t)
	d.Append("0", nil)
	d.Append("bb", []byte("loose"))
	// By rising names: 0 a b bb c d e.
	leaves(t, "P5.3: keeps in turn", d, []int{9, 1, 2, 0, 3, 4, 5}, kept(0, 1), kept(1, 2), kept(2, 3), kept(3, 4), kept(4, 5))
	leaves(t, "P5.3: keeps in turn", d, []int{0, 7}, kept(0, 7), kept(1, 0), text("bb", "loose"), kept(2, 0), kept(3, 7), kept(4, 0))
}

func TestStart(t *testing.T) {
	d := lay(t, "a", []byte("xyz"), []byte("uv"))
	d.Append("b", []byte("loose"))
	want(t, "P5.3: Start of a disk that is up", d.Start(), api.OK)
	holds(t, "P5.3: nothing changes of one that is up", d, text("a", "xyzuv"), text("b", "loose"))
	leaves(t, "P5.3: nothing is made safe of one that is up", d, nil, text("a", "xyz\x00\x00"))
	f := d.Fork()
	f.Crash([]int{1, 2})
	want(t, "P5.3: Start of one that crashed", f.Start(), api.OK)
	holds(t, "P5.3: what the Crash left is there", f, text("a", "xyzu\x00"), text("b", "lo\x00\x00\x00"))
	want(t, "P5.3: Start again", f.Start(), api.OK)
	leaves(t, "P5.3: what the Crash left is safe", f, nil, text("a", "xyzu\x00"), text("b", "lo\x00\x00\x00"))
	d.Arm(1)
	d.Remove("a")
	want(t, "P5.3: Start of one that is down and did not crash", d.Start(), api.OK)
	holds(t, "P5.3: what was not safe is gone, as by a Crash", d, text("a", "xyz\x00\x00"))
	leaves(t, "P5.3: the rest is safe", d, nil, text("a", "xyz\x00\x00"))
	want(t, "P5.1: Append", d.Append("a", []byte("w")), api.OK)
	holds(t, "P5.1: appended behind it", d, text("a", "xyz\x00\x00w"))
}

func TestNoDisk(t *testing.T) {
	var none *Disk
	for _, name := range []string{"a", "", "A"} {
		for _, c := range namers() {
			want(t, "P5.1: "+c.what+" of nil", c.call(none, name), api.ErrNil)
		}
	}
	if list, e := none.Names(); list != nil || e != api.ErrNil {
		t.Errorf("P5.1: Names of nil: %v, error %d; want nil, ErrNil", list, e)
	}
	want(t, "P5.2: Arm of nil", none.Arm(1), api.ErrNil)
	want(t, "P5.2: Arm of nil", none.Arm(-1), api.ErrNil)
	want(t, "P5.3: Crash of nil", none.Crash([]int{1}), api.ErrNil)
	want(t, "P5.3: Start of nil", none.Start(), api.ErrNil)
	if none.Down() || none.Used() != 0 || none.Fork() != nil {
		t.Errorf("P5.3: nil: Down %v, Used %d, Fork %v; want false, 0, nil", none.Down(), none.Used(), none.Fork())
	}
}

func TestDiskThatNewHasNotMade(t *testing.T) {
	var zero Disk
	want(t, "R1: Append of a byte", zero.Append("a", []byte{1}), api.ErrFull)
	want(t, "R1: Sync of none", zero.Sync("a"), api.ErrNone)
	want(t, "R1: Remove of none", zero.Remove("a"), api.ErrNone)
	holds(t, "R1: a fork", zero.Fork())
	want(t, "R1: Append of nothing", zero.Fork().Append("a", nil), api.OK)
	want(t, "R1: Append of nothing", zero.Append("a", nil), api.OK)
	holds(t, "R1: a file without bytes", &zero, shot{"a", nil})
	want(t, "R1: Crash", zero.Crash([]int{1}), api.OK)
	want(t, "R1: Start", zero.Start(), api.OK)
	holds(t, "R1: started", &zero)
}

func TestErrorsInOrder(t *testing.T) {
	d := must(t, 2)
	for k := range api.MaxFiles {
		d.Append(numbered(k), nil)
	}
	want(t, "R5: a bad name, too many files and bytes", d.Append("", make([]byte, 9)), api.ErrArg)
	want(t, "R5: a bad name, and no such length", d.Cut("A", -1), api.ErrArg)
	want(t, "R5: no such file, and no such length", d.Cut("a", -1), api.ErrNone)
	d.Crash(nil)
	want(t, "R5: down, a bad name", d.Append("", make([]byte, 9)), api.ErrDown)
	want(t, "R5: down, no such file", d.Cut("a", -1), api.ErrDown)
	want(t, "R5: down, no such file", d.Remove("a"), api.ErrDown)
}

func TestWhatIsHandedInStays(t *testing.T) {
	room := []byte("abcdef")
	d := must(t, 100)
	d.Append("f", room[:3])
	d.Append("g", room[:3])
	if string(room) != "abcdef" {
		t.Errorf("R3: Append changed what it was handed, or what is behind: %q", room)
	}
	copy(room, "######")
	d.Append("f", []byte("!"))
	holds(t, "R3: what was handed in is changed later", d, text("f", "abc!"), text("g", "abc"))
	keeps := []int{1, -5, 9999, 7}
	d.Crash(keeps[:3])
	if !slices.Equal(keeps, []int{1, -5, 9999, 7}) {
		t.Errorf("R3: Crash changed what it was handed: %v", keeps)
	}
	letters := []byte("name")
	name := string(letters)
	d.Start()
	d.Append(name, []byte("1"))
	clear(letters)
	holds(t, "R3: a name", d, text("f", "a\x00\x00\x00"), text("name", "1"))
}

func TestWhatIsHandedOutIsTheCallers(t *testing.T) {
	d := lay(t, "a", []byte("xyz"), []byte("uv"))
	d.Append("b", []byte("w"))
	first, _ := d.Read("a")
	second, _ := d.Read("a")
	list, _ := d.Names()
	first = append(first, 1, 2, 3)
	clear(first)
	clear(list)
	if string(second) != "xyzuv" {
		t.Errorf("R3: two answers share memory: %q", second)
	}
	holds(t, "R3: what was handed out is changed later", d, text("a", "xyzuv"), text("b", "w"))
	third, _ := d.Read("a")
	third = append(third[:4], "!!!!"...)
	d.Append("a", []byte("+"))
	if string(third) != "xyzu!!!!" {
		t.Errorf("R3: the disk writes into what it has handed out: %q", third)
	}
	fourth, _ := d.Read("a")
	d.Cut("a", 2)
	d.Append("a", []byte("####"))
	if string(fourth) != "xyzuv+" {
		t.Errorf("R3: the disk writes into what it has handed out: %q", fourth)
	}
	holds(t, "R3: cut, and appended to", d, text("a", "xy####"), text("b", "w"))
}

func TestForkGoesItsOwnWay(t *testing.T) {
	d := lay(t, "a", []byte("xyz"), []byte("uv"))
	layOn(t, d, "b", []byte("1"), []byte("2"))
	base := []shot{text("a", "xyzuv"), text("b", "12")}
	f := d.Fork()
	holds(t, "P5.3: a fork", f, base...)
	leaves(t, "P5.3: a fork, as to what is safe", f, nil, text("a", "xyz\x00\x00"), text("b", "1\x00"))
	// Each appends to the same file: they must not write into the same room.
	f.Append("a", []byte("f"))
	d.Append("a", []byte("d"))
	holds(t, "P5.3: a fork", f, text("a", "xyzuvf"), text("b", "12"))
	holds(t, "P5.3: what was forked", d, text("a", "xyzuvd"), text("b", "12"))
	f.Sync("b")
	leaves(t, "P5.3: a Sync of a fork", d, nil, text("a", "xyz\x00\x00\x00"), text("b", "1\x00"))
	f.Cut("a", 1)
	f.Append("a", []byte("###"))
	f.Append("c", []byte("new"))
	f.Remove("b")
	holds(t, "P5.3: a fork that was changed", f, text("a", "x###"), text("c", "new"))
	holds(t, "P5.3: what was forked", d, text("a", "xyzuvd"), text("b", "12"))
	f.Crash(nil)
	if d.Down() {
		t.Error("P5.3: a Crash of a fork: what was forked is down")
	}
	holds(t, "P5.3: what was forked, behind a Crash of the fork", d, text("a", "xyzuvd"), text("b", "12"))
}

func TestForkIsAlikeInAll(t *testing.T) {
	d := must(t, 10)
	d.Append("a", []byte("12345678"))
	d.Arm(2)
	f := d.Fork()
	want(t, "P5.3: the size of a fork", f.Append("a", []byte("90+")), api.ErrFull)
	want(t, "P5.3: a fork is armed", f.Append("a", []byte("90")), api.OK)
	g := f.Fork()
	want(t, "P5.3: a fork is armed", f.Sync("a"), api.ErrDown)
	want(t, "P5.3: a fork's fork is armed", g.Sync("a"), api.ErrDown)
	want(t, "P5.3: what was forked is armed", d.Sync("a"), api.OK)
	want(t, "P5.3: what was forked is armed", d.Sync("a"), api.ErrDown)
	h := g.Fork()
	isDown(t, "P5.3: a fork of a disk that is down", h, 10)
	leaves(t, "P5.3: a fork of a disk that is down, which may fall", h, []int{4}, text("a", "1234\x00\x00\x00\x00\x00\x00"))
	h.Start()
	holds(t, "P5.3: a fork that is started", h)
	isDown(t, "P5.3: what was forked stays down", g, 10)
	d.Fork().Arm(1)
	d.Start()
	want(t, "P5.3: a fork was armed, not this one", d.Sync("a"), api.OK)
}
