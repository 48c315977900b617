package slots

import (
	"fmt"
	"slices"
	"testing"

	"hansom/api"
	"hansom/disk"
)

// told: a number, and the bytes that were saved with it.
type told struct {
	number uint64
	data   string
}

// tracked: slots, and what may be the last one behind a fall.
type tracked struct {
	d *disk.Disk
	s *Slots
	// sure is the last Save that was answered with OK; may is that, or the one behind it that was answered with ErrDown.
	sure, may told
}

// track: tracked slots on a new disk, of so many saves.
func track(t *testing.T, saves int) *tracked {
	t.Helper()
	d := newDisk(t, 100000)
	k := &tracked{d: d, s: must(t, d)}
	for n := range saves {
		want(t, "P8.2: Save", k.save(string(noise(3+n*40, uint64(n+1)))), api.OK)
	}
	return k
}

func (k *tracked) save(data string) api.Errno {
	next := told{k.sure.number + 1, data}
	e := k.s.Save([]byte(data))
	if e == api.OK || e == api.ErrDown && k.may == k.sure {
		k.may = next
	}
	if e == api.OK {
		k.sure = next
	}
	return e
}

// found: slots that were opened behind a fall have a last one that P8.3 allows.
func (k *tracked) found(t *testing.T, what string, s *Slots) {
	t.Helper()
	b, number, is := s.Last()
	got := told{number, string(b)}
	if is != (number > 0) || got != k.sure && got != k.may {
		t.Fatalf("P8.3: %s: Last: %.40q, %d, %v; want %.40q, %d or %.40q, %d", what, b, number, is, k.sure.data, k.sure.number, k.may.data, k.may.number)
	}
}

// goOn: the slots that were found behind a fall take the others' place; all that is there then is safe.
func (k *tracked) goOn(s *Slots) {
	b, number, _ := s.Last()
	k.s, k.sure = s, told{number, string(b)}
	k.may = k.sure
}

// keeps: how much of each file may stay, as little and as much as there may be.
func keeps() [][]int {
	return [][]int{
		nil, {0}, {1}, {2}, {3}, {4}, {5}, {8}, {9}, {10}, {11}, {12}, {13}, {20}, {63}, {64}, {65}, {128}, {309}, {310}, {9999},
		{0, 9999}, {9999, 0}, {9999, 12}, {12, 9999},
	}
}

// A Save that is hit at each of its calls, behind any number of saves, of few bytes and of many.
func TestEachCallHit(t *testing.T) {
	for saves := range 5 {
		for _, size := range []int{0, 1, 12, 50, 53, 54, 200, 300, 3000} {
			for _, keep := range keeps() {
				done := false
				for hit := 1; !done; hit++ {
					if hit > 20 {
						t.Fatal("P8.2: a Save comes to no end")
					}
					k := track(t, saves)
					data := string(noise(size, 77))
					k.d.Arm(hit)
					e := k.save(data)
					if done = e == api.OK; !done {
						want(t, "P8.2: a Save that is hit", e, api.ErrDown)
						last(t, "R4: a Save that is hit", k.s, k.sure.number, k.sure.data)
					}
					what := fmt.Sprintf("%d saves and one of %d bytes, hit %d, keep %d", saves, size, hit, keep)
					fall(t, k.d, keep...)
					k.behind(t, what)
				}
			}
		}
	}
}

// behind: what is there behind a fall is allowed; opened again it is the same; it goes on.
func (k *tracked) behind(t *testing.T, what string) {
	t.Helper()
	s := must(t, k.d)
	k.found(t, what, s)
	k.goOn(s)
	last(t, "P8.3: "+what+": opened again", must(t, k.d), k.sure.number, k.sure.data)
	fall(t, k.d)
	last(t, "P8.3: "+what+": another fall", must(t, k.d), k.sure.number, k.sure.data)
	for n := range 3 {
		want(t, "P8.3: "+what+": it goes on", k.save(fmt.Sprint("more ", n)), api.OK)
		last(t, "P8.3: "+what+": it goes on", k.s, k.sure.number, k.sure.data)
		fall(t, k.d)
		last(t, "P8.3: "+what+": it goes on, and falls", must(t, k.d), k.sure.number, k.sure.data)
	}
}

// A Start without a Crash, and a second fall while the Save behind it is hit.
func TestFallBehindFall(t *testing.T) {
	for saves := range 4 {
		for first := 1; first < 5; first++ {
			for second := 1; second < 5; second++ {
				for _, keep := range keeps() {
					k := track(t, saves)
					k.d.Arm(first)
					k.save("first")
					want(t, "Start", k.d.Start(), api.OK)
					s := must(t, k.d)
					what := fmt.Sprintf("%d saves, hit %d, then %d, keep %d", saves, first, second, keep)
					k.found(t, what, s)
					k.goOn(s)
					k.d.Arm(second)
					k.save("the second one, longer")
					fall(t, k.d, keep...)
					k.behind(t, what)
				}
			}
		}
	}
}

// A Save changes the elder slot at most, whether it is hit or not: the file of what was the last one is as it was.
func TestLastOneIsNotTouched(t *testing.T) {
	for saves := 1; saves < 5; saves++ {
		for hit := 1; hit < 4; hit++ {
			k := track(t, saves)
			elder := k.sure
			k.d.Arm(hit)
			k.save("x")
			fall(t, k.d)
			b, e := k.d.Read(nameOf(elder.number))
			if e != api.OK || !slices.Equal(b, slot(t, elder.number, elder.data)) {
				t.Errorf("P8.3: %d saves, hit %d: the last one's file has %x, error %d", saves, hit, b, e)
			}
		}
	}
}

// What is answered with OK is safe: nothing of it hangs on what a fall keeps.
func TestSafe(t *testing.T) {
	k := track(t, 0)
	for n := range 20 {
		want(t, "P8.2: Save", k.save(string(noise(n*13, uint64(n+5)))), api.OK)
		for _, keep := range [][]int{nil, {0}, {-5}, {1}, {9999}} {
			f := k.d.Fork()
			f.Crash(keep)
			f.Start()
			last(t, "P8.3: behind OK", must(t, f), k.sure.number, k.sure.data)
		}
	}
}

// Slots that nobody has made safe yet, found by an Open: there is always one that is whole.
func TestWhatWasFound(t *testing.T) {
	for _, keep := range keeps() {
		for hit := range 6 {
			d := newDisk(t, 1000)
			want(t, "Append", d.Append("s1", slot(t, 1, "one")), api.OK)
			want(t, "Sync", d.Sync("s1"), api.OK)
			want(t, "Append", d.Append("s0", slot(t, 2, "two")), api.OK)
			s := must(t, d)
			d.Arm(hit)
			least := uint64(2)
			if e := s.Save([]byte("three")); e == api.OK {
				least = 3
			} else if hit == 1 {
				// Nothing was done yet: a fall may take what nobody has made safe.
				least = 1
			}
			fall(t, d, keep...)
			if _, number, _ := must(t, d).Last(); number < least || number > 3 {
				t.Errorf("P8.3: what was found, hit %d, keep %d: %d; want %d to 3", hit, keep, number, least)
			}
		}
	}
}

// A last one that was found and went by a fall that nobody told the slots of: they go on.
func TestWhatWasFoundWent(t *testing.T) {
	d := newDisk(t, 1000)
	want(t, "Append", d.Append("s0", slot(t, 2, "two")), api.OK)
	s := must(t, d)
	fall(t, d)
	want(t, "P8.2: Save", s.Save([]byte("three")), api.OK)
	last(t, "P8.2: Save", s, 3, "three")
	fall(t, d)
	last(t, "P8.3: behind it", must(t, d), 3, "three")
}

// dice: numbers that look like chance, the same ones each time.
type dice uint64

func (x *dice) roll(n int) int {
	*x ^= *x << 13
	*x ^= *x >> 7
	*x ^= *x << 17
	return int(uint64(*x) >> 16 % uint64(n))
}

// step: any call, on a disk that may be hit at any of the next ones, and may have no room; whether it is down then.
func (k *tracked) step(t *testing.T, x *dice) bool {
	t.Helper()
	switch x.roll(8) {
	case 0, 1, 2, 3:
		e := k.save(string(noise(x.roll(300), uint64(*x))))
		if e != api.OK && e != api.ErrDown && e != api.ErrFull {
			t.Fatalf("P8.2: Save: error %d", e)
		}
		last(t, "P8.2: Save", k.s, k.sure.number, k.sure.data)
		return e == api.ErrDown
	case 4:
		k.s = must(t, k.d)
		last(t, "P8.1: opened again without a fall", k.s, k.sure.number, k.sure.data)
	case 5:
		want(t, "P8.2: Save of more than the disk has room for", k.save(string(make([]byte, 1000))), api.ErrFull)
	case 6:
		k.d.Arm(x.roll(6))
	case 7:
		return true
	}
	return false
}

// Long runs of any calls, with falls anywhere.
func TestAnyFalls(t *testing.T) {
	for seed := range 40 {
		x := dice(seed*7919 + 1)
		d := newDisk(t, 300+x.roll(400))
		k := &tracked{d: d, s: must(t, d)}
		for n := range 300 {
			if !k.step(t, &x) {
				continue
			}
			if x.roll(4) > 0 {
				keep := []int{x.roll(350), x.roll(20)}[:x.roll(3)]
				want(t, "Crash", d.Crash(keep), api.OK)
			}
			want(t, "Start", d.Start(), api.OK)
			s := must(t, d)
			k.found(t, fmt.Sprintf("seed %d, step %d", seed, n), s)
			k.goOn(s)
		}
		if k.sure.number < 20 {
			t.Errorf("P8.3: seed %d: %d saves only", seed, k.sure.number)
		}
	}
}
