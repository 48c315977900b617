package disk

import (
	"bytes"
	"slices"
	"strings"
	"testing"

	"hansom/api"
)

// cell: one byte of a file, and whether it is safe.
type cell struct {
	x    byte
	safe bool
}

// plainFile: a file as a list of cells.
type plainFile struct {
	name  string
	cells []cell
}

// plain: the chapter's words taken one by one: files in a list by rising names; what is hit is the number of a call, counted up.
type plain struct {
	size       int
	files      []plainFile
	down       bool
	done, hits int
}

// at: where a name is, or would be, and whether it is there.
func (p *plain) at(name string) (int, bool) {
	return slices.BinarySearchFunc(p.files, name, func(f plainFile, name string) int {
		return strings.Compare(f.name, name)
	})
}

// used: how many bytes all files have.
func (p *plain) used() int {
	n := 0
	for _, f := range p.files {
		n += len(f.cells)
	}
	return n
}

// refused: what counts ahead of all else.
func (p *plain) refused(name string) api.Errno {
	if p.down {
		return api.ErrDown
	}
	if name == "" || len(name) > 16 || strings.Trim(name, "abcdefghijklmnopqrstuvwxyz0123456789.") != "" {
		return api.ErrArg
	}
	return api.OK
}

// count: one more call that would be done; whether it is hit.
func (p *plain) count() bool {
	p.done++
	if p.done == p.hits {
		p.down = true
		return true
	}
	return false
}

func (p *plain) append(name string, b []byte) api.Errno {
	if e := p.refused(name); e != api.OK {
		return e
	}
	k, is := p.at(name)
	if p.used()+len(b) > p.size || !is && len(p.files) == 64 {
		return api.ErrFull
	}
	if !is {
		p.files = slices.Insert(p.files, k, plainFile{name: name})
	}
	for _, x := range b {
		p.files[k].cells = append(p.files[k].cells, cell{x: x})
	}
	if p.count() {
		return api.ErrDown
	}
	return api.OK
}

// change: Sync, Cut and Remove, which are told apart by what is done to the file, if it may be.
func (p *plain) change(name string, may func(int) bool, do func(int)) api.Errno {
	if e := p.refused(name); e != api.OK {
		return e
	}
	k, is := p.at(name)
	if !is {
		return api.ErrNone
	}
	if !may(len(p.files[k].cells)) {
		return api.ErrArg
	}
	if p.count() {
		return api.ErrDown
	}
	do(k)
	return api.OK
}

func (p *plain) sync(name string) api.Errno {
	return p.change(name, func(int) bool { return true }, func(k int) { p.files[k].makeSafe() })
}

func (p *plain) cut(name string, n int) api.Errno {
	return p.change(name, func(length int) bool { return 0 <= n && n <= length }, func(k int) {
		p.files[k].cells = p.files[k].cells[:n]
		p.files[k].makeSafe()
	})
}

func (p *plain) remove(name string) api.Errno {
	return p.change(name, func(int) bool { return true }, func(k int) { p.files = slices.Delete(p.files, k, k+1) })
}

func (f *plainFile) makeSafe() {
	for i := range f.cells {
		f.cells[i].safe = true
	}
}

func (p *plain) arm(n int) {
	p.done, p.hits = 0, max(n, 0)
}

// crash: a byte that is not safe and does not stay becomes 0 up to the next multiple of 64, and is gone behind it.
func (p *plain) crash(keep []int) {
	p.down = true
	var left []plainFile
	for k, f := range p.files {
		most := 0
		if len(keep) > 0 {
			most = max(keep[k%len(keep)], 0)
		}
		var cells []cell
		for i, c := range f.cells {
			if !c.safe {
				most--
			}
			stays := c.safe || most >= 0
			if !stays && i%64 == 0 {
				break
			}
			if !stays {
				c.x = 0
			}
			cells = append(cells, cell{x: c.x, safe: true})
		}
		if len(cells) > 0 {
			left = append(left, plainFile{f.name, cells})
		}
	}
	p.files = left
}

func (p *plain) start() {
	if p.down {
		p.crash(nil)
	}
	p.down, p.done, p.hits = false, 0, 0
}

// shots: all files.
func (p *plain) shots() []shot {
	var out []shot
	for _, f := range p.files {
		s := shot{name: f.name}
		for _, c := range f.cells {
			s.data = append(s.data, c.x)
		}
		out = append(out, s)
	}
	return out
}

// fork: a copy that shares nothing.
func (p *plain) fork() *plain {
	f := *p
	f.files = nil
	for _, x := range p.files {
		f.files = append(f.files, plainFile{x.name, slices.Clone(x.cells)})
	}
	return &f
}

// chance: numbers that look like chance, the same ones each time.
type chance struct{ seed uint64 }

// below: a number from 0 to n - 1.
func (c *chance) below(n int) int {
	c.seed ^= c.seed << 13
	c.seed ^= c.seed >> 7
	c.seed ^= c.seed << 17
	return int((c.seed >> 20) % uint64(n))
}

// keeps: up to five of them, among them such as are below 0 and beyond.
func (c *chance) keeps() []int {
	out := make([]int, c.below(6))
	for i := range out {
		out[i] = c.below(200) - 20
	}
	return out
}

// step: one call of both, by chance; what each has answered, and what it was.
func step(c *chance, d *Disk, p *plain) (string, api.Errno, api.Errno) {
	names := []string{"a", "b", "b.1", "c", "0", "zz", "l0000000001", "", "Q", "a b", "12345678901234567"}
	name := names[c.below(len(names))]
	if c.below(3) > 0 {
		name = names[c.below(4)]
	}
	switch c.below(12) {
	case 0, 1, 2, 3:
		b := noise(c.below(150), uint64(c.below(1000))+1)
		return "Append", d.Append(name, b), p.append(name, b)
	case 4, 5:
		return "Sync", d.Sync(name), p.sync(name)
	case 6:
		n := c.below(300) - 2
		return "Cut", d.Cut(name, n), p.cut(name, n)
	case 7:
		return "Remove", d.Remove(name), p.remove(name)
	case 8:
		n := c.below(9) - 1
		p.arm(n)
		return "Arm", d.Arm(n), api.OK
	case 9:
		keep := c.keeps()
		p.crash(keep)
		return "Crash", d.Crash(keep), api.OK
	default:
		p.start()
		return "Start", d.Start(), api.OK
	}
}

// wantPlain: a disk is as the plain one, in all that can be seen, and in what falls of forks of both would leave.
func wantPlain(t *testing.T, what string, c *chance, d *Disk, p *plain) bool {
	t.Helper()
	good := d.Down() == p.down && d.Used() == p.used()
	if !p.down {
		good = good && alike(shots(t, d), p.shots())
	}
	for _, keep := range [][]int{nil, c.keeps(), {9999}} {
		df, pf := d.Fork(), p.fork()
		df.Crash(keep)
		pf.crash(keep)
		df.Start()
		pf.start()
		good = good && alike(shots(t, df), pf.shots())
	}
	if !good {
		t.Errorf("P5: %s: the disk is not as the plain one", what)
	}
	return good
}

func TestAsSaidPlainly(t *testing.T) {
	for seed := range uint64(300) {
		c := &chance{seed*0x9e3779b97f4a7c15 + 1}
		size := 1 + c.below(1500)
		d, p := must(t, size), &plain{size: size}
		for range 120 {
			what, got, right := step(c, d, p)
			if got != right {
				t.Fatalf("P5: seed %d: %s: error %d; want %d", seed, what, got, right)
			}
			if !wantPlain(t, what, c, d, p) {
				t.FailNow()
			}
			if c.below(20) == 0 {
				d = d.Fork()
			}
		}
	}
}

// Whatever a fall keeps, what was safe is there, then a beginning of what was not, and noughts.
func TestWhatFollows(t *testing.T) {
	for seed := range uint64(300) {
		c := &chance{seed*0x9e3779b97f4a7c15 + 7}
		d := must(t, 4000)
		safe, whole := []byte{}, []byte{}
		for range 3 + c.below(10) {
			b := noise(1+c.below(100), uint64(c.below(1000))+1)
			d.Append("a", b)
			whole = append(whole, b...)
			if c.below(3) == 0 {
				d.Sync("a")
				safe = slices.Clone(whole)
			}
		}
		if c.below(2) == 0 {
			d.Arm(1)
			d.Cut("a", c.below(len(whole)))
		}
		for keep := -1; keep <= len(whole)+1; keep++ {
			f := d.Fork()
			f.Crash([]int{keep})
			f.Start()
			wantBeginning(t, f, safe, whole, keep)
		}
	}
}

// wantBeginning: a file has what was safe, then a beginning of the rest, of at least so many bytes, and noughts.
func wantBeginning(t *testing.T, d *Disk, safe, whole []byte, keep int) {
	t.Helper()
	b, e := d.Read("a")
	if len(safe) == 0 && keep <= 0 {
		want(t, "P5.3: nothing is safe, nothing stays", e, api.ErrNone)
		return
	}
	want(t, "P5.3: Read behind a fall", e, api.OK)
	if len(b) > len(whole) || !bytes.HasPrefix(b, safe) {
		t.Fatalf("P5.3: %d safe of %d, keep %d: %d bytes, which do not begin with what was safe, or are too many", len(safe), len(whole), keep, len(b))
	}
	// No byte of the whole is 0, so that noughts are told from it.
	stay := len(bytes.TrimRight(b, "\x00"))
	if right := len(safe) + min(max(keep, 0), len(whole)-len(safe)); stay != right || !bytes.Equal(b[:stay], whole[:stay]) {
		t.Fatalf("P5.3: %d safe of %d, keep %d: %d bytes stay; want %d", len(safe), len(whole), keep, stay, right)
	}
	if right := min((stay+63)/64*64, len(whole)); len(b) != right {
		t.Fatalf("P5.3: %d safe of %d, keep %d: with noughts %d bytes; want %d", len(safe), len(whole), keep, len(b), right)
	}
}
