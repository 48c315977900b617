package journal

import (
	"fmt"
	"slices"
	"testing"

	"hansom/api"
	"hansom/disk"
)

// tracked: a journal, and what was done with it: what P7.4 allows to be there behind a fall.
type tracked struct {
	d *disk.Disk
	j *Journal
	// all has every record that was appended, by its number, those that were trimmed too; at its end perhaps one whose Append was answered with ErrDown.
	all  []string
	next int
	safe int
	// firsts has the numbers that First may be.
	firsts []uint64
}

// track: a tracked journal on a new disk.
func track(t *testing.T, most int) *tracked {
	t.Helper()
	d := newDisk(t, 100000)
	return &tracked{d: d, j: must(t, d, most), firsts: []uint64{0}}
}

func (k *tracked) append(r string) api.Errno {
	e := k.j.Append([]byte(r))
	if e == api.OK || e == api.ErrDown {
		k.all = append(k.all[:k.next], r)
	}
	if e == api.OK {
		k.next++
	}
	return e
}

func (k *tracked) sync() api.Errno {
	e := k.j.Sync()
	if e == api.OK {
		k.safe = k.next
	}
	return e
}

// trim: while it has not answered, First is any segment's number up to that of the one that would be the first.
func (k *tracked) trim(n uint64) api.Errno {
	names, _ := k.d.Names()
	first := k.j.First()
	e := k.j.Trim(n)
	switch e {
	case api.OK:
		k.firsts = []uint64{k.j.First()}
	case api.ErrDown:
		k.firsts = nil
		for _, name := range names {
			number, _ := numberOf(name)
			if number == first || number <= n {
				k.firsts = append(k.firsts, number)
			}
		}
	}
	return e
}

// found: a journal that was opened behind a fall is one that P7.4 allows.
func (k *tracked) found(t *testing.T, what string, j *Journal) {
	t.Helper()
	if !slices.Contains(k.firsts, j.First()) {
		t.Fatalf("P7.4: %s: First %d; want one of %d", what, j.First(), k.firsts)
	}
	if j.Next() < uint64(k.safe) || j.Next() > uint64(len(k.all)) || j.Next() < j.First() {
		t.Fatalf("P7.4: %s: from %d up to %d; want %d to %d", what, j.First(), j.Next(), k.safe, len(k.all))
	}
	if got := texts(j.Records()); !slices.Equal(got, k.all[j.First():j.Next()]) {
		t.Fatalf("P7.4: %s: records %q from %d on; want %q", what, got, j.First(), k.all[j.First():j.Next()])
	}
}

// goOn: the journal that was found behind a fall takes the other's place; all that is there then is safe.
func (k *tracked) goOn(j *Journal) {
	k.j = j
	k.next, k.safe = int(j.Next()), int(j.Next())
	k.all = k.all[:k.next]
	k.firsts = []uint64{j.First()}
}

// keeps: how much of each file may stay, as little and as much as there may be.
func keeps() [][]int {
	return [][]int{nil, {1}, {5}, {9}, {10}, {11}, {12}, {30}, {0, 9999}, {9999, 0}, {9999, 12}, {9999}}
}

// openAtLast: the disk's journal, opened with the first, the second .. call of Open hit, each time behind a fall, until none is.
func openAtLast(t *testing.T, d *disk.Disk, most int, keep []int) *Journal {
	t.Helper()
	for hit := range 100 {
		d.Arm(hit + 1)
		j, e := Open(d, most)
		d.Arm(0)
		if e == api.OK {
			return j
		}
		if j != nil || e != api.ErrDown {
			t.Fatalf("P7.4: Open behind a fall: %v, error %d; want nil, ErrDown", j, e)
		}
		fall(t, d, keep...)
	}
	t.Fatal("P7.4: Open behind falls comes to no end")
	return nil
}

// run: Appends, Syncs and Trims, up to the first that is not answered OK; whether all were.
func (k *tracked) run(t *testing.T) bool {
	t.Helper()
	for i := range 13 {
		e := k.append(fmt.Sprint("record ", i))
		if e == api.OK && i%4 == 2 {
			e = k.sync()
		}
		if e == api.OK && i%5 == 4 {
			e = k.trim(uint64(k.next - i%2))
		}
		if e == api.ErrDown {
			return false
		}
		if e != api.OK {
			t.Fatalf("P7.2: error %d", e)
		}
	}
	return true
}

func TestEachCallHit(t *testing.T) {
	for _, most := range []int{1, 2, 3, 100} {
		for _, keep := range keeps() {
			done := false
			for hit := 1; !done; hit++ {
				k := track(t, most)
				k.d.Arm(hit)
				done = k.run(t)
				fall(t, k.d, keep...)
				what := fmt.Sprintf("most %d, hit %d, keep %d", most, hit, keep)
				j := openAtLast(t, k.d, most, keep)
				k.found(t, what, j)
				k.goOn(j)
				again := must(t, k.d, most)
				stands(t, "P7.4: "+what+": opened again", again, j.First(), j.Segments(), texts(j.Records())...)
				want(t, "P7.4: "+what+": Append", k.append("more"), api.OK)
				want(t, "P7.4: "+what+": Sync", k.sync(), api.OK)
				fall(t, k.d)
				k.found(t, what+", and on", must(t, k.d, most))
			}
		}
	}
}

// A Trim that is hit at each of its calls: each segment's number between may be the first one.
func TestTrimHit(t *testing.T) {
	for _, keep := range keeps() {
		for n := range 8 {
			done := false
			for hit := 1; !done; hit++ {
				k := track(t, 2)
				for _, r := range letters(7) {
					want(t, "P7.2: Append", k.append(r), api.OK)
				}
				k.d.Arm(hit)
				e := k.trim(uint64(n))
				if done = e == api.OK; !done {
					if e != api.ErrDown {
						t.Fatalf("P7.2: Trim(%d): error %d", n, e)
					}
					stands(t, "R4: a Trim that is hit", k.j, 0, 4, letters(7)...)
				}
				fall(t, k.d, keep...)
				k.found(t, fmt.Sprintf("Trim(%d), hit %d, keep %d", n, hit, keep), openAtLast(t, k.d, 2, keep))
			}
		}
	}
}

// Behind a Trim what is left is there, though nobody has said Sync: its numbers go on from where they were.
func TestTrimOutlivesFalls(t *testing.T) {
	for most := 1; most < 4; most++ {
		for size := 1; size < 9; size++ {
			k := track(t, most)
			for _, r := range letters(size) {
				want(t, "P7.2: Append", k.append(r), api.OK)
			}
			want(t, "P7.2: Trim", k.trim(uint64(size)), api.OK)
			for range 3 {
				fall(t, k.d)
				k.found(t, "a Trim, and a fall", must(t, k.d, most))
			}
		}
	}
}

// A new segment is begun only behind what is safe: of two files a fall may keep the second one alone.
func TestNewSegmentOutlivesFalls(t *testing.T) {
	for most := 1; most < 4; most++ {
		for size := 1; size < 9; size++ {
			for _, keep := range [][]int{{0, 9999}, {3, 9999}, {0, 0, 9999}, {0, 0, 0, 9999}, {9999, 0, 9999}} {
				k := track(t, most)
				for _, r := range letters(size) {
					want(t, "P7.2: Append", k.append(r), api.OK)
				}
				fall(t, k.d, keep...)
				k.found(t, fmt.Sprintf("%d records, most %d, keep %d", size, most, keep), must(t, k.d, most))
			}
		}
	}
}

// dice: numbers that look like chance, the same ones each time.
type dice uint64

func (x *dice) roll(n int) int {
	*x ^= *x << 13
	*x ^= *x >> 7
	*x ^= *x << 17
	return int(uint64(*x) >> 16 % uint64(n))
}

// step: any call, on a disk that may be hit at any of the next ones; whether it is down then.
func (k *tracked) step(t *testing.T, x *dice) bool {
	t.Helper()
	e := api.OK
	switch x.roll(8) {
	case 0, 1, 2, 3:
		e = k.append(string(noise(x.roll(150), uint64(*x))))
	case 4:
		e = k.sync()
	case 5:
		n := uint64(x.roll(k.next + 3))
		above := n > k.j.Next()
		if e = k.trim(n); e == api.ErrArg && above {
			e = api.OK
		}
	case 6:
		most := 1 + x.roll(5)
		j, again := Open(k.d, most)
		if e = again; e == api.OK {
			stands(t, "P7.1: opened again without a fall", j, k.j.First(), k.j.Segments(), k.all[k.j.First():k.next]...)
			k.j = j
		}
	case 7:
		k.d.Arm(x.roll(6))
	}
	if e != api.OK && e != api.ErrDown {
		t.Fatalf("P7.2: error %d", e)
	}
	return e == api.ErrDown
}

// Long runs of any calls, with falls anywhere, in Open too.
func TestAnyFalls(t *testing.T) {
	for seed := range 60 {
		x := dice(seed*7919 + 1)
		k := track(t, 1+x.roll(4))
		falls := 0
		for n := range 400 {
			if k.d.Used() > 60000 || len(files(t, k.d)) > 40 {
				k.d.Arm(0)
				want(t, "P7.2: Trim", k.trim(uint64(k.next)), api.OK)
			}
			if !k.step(t, &x) && x.roll(40) > 0 {
				continue
			}
			falls++
			keep := []int{x.roll(200), x.roll(20), x.roll(100)}[:x.roll(4)]
			fall(t, k.d, keep...)
			j := openAtLast(t, k.d, 1+x.roll(4), keep)
			k.found(t, fmt.Sprintf("seed %d, step %d, keep %d", seed, n, keep), j)
			k.goOn(j)
		}
		if falls < 10 {
			t.Errorf("P7.4: seed %d: %d falls only", seed, falls)
		}
	}
}
