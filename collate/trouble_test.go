package collate_test

import (
	"math"
	"math/rand"
	"slices"
	"testing"

	"collate/collate"
	"collate/disk"
)

// troubled are files whose sorting makes few runs and many, and merges them once and more often.
func troubled() [][]collate.Record {
	return [][]collate.Record{nil, many(1, 5, mixed), many(9, 5, rising), many(12, 5, falling), many(30, 20, mixed), many(24, 100, falling)}
}

// callsFor tells how many calls the sorting of a file takes on a disk that does all that it is asked.
func callsFor(blocks []string, may int, once bool) int {
	d := disk.New(enough(blocks), may, nil, nil)
	collate.Sort(d, d.Load(blocks), once)
	return d.Calls()
}

// upTo answers the numbers from first to last.
func upTo(first int, last int) []int {
	var l []int
	for i := first; i <= last; i++ {
		l = append(l, i)
	}
	return l
}

// Whichever call cannot be done: the answer is ErrDisk, and all files are gone (each one that a Delete left is deleted again).
func TestSortOneFault(t *testing.T) {
	for _, list := range troubled() {
		blocks := cut(write(list...))
		for _, may := range []int{3, 5} {
			last := callsFor(blocks, may, false)
			for at := 1; at <= last; at++ {
				d := disk.New(enough(blocks), may, []int{at}, nil)
				wantFailed(t, d, d.Load(blocks), collate.ErrDisk)
			}
			d := disk.New(enough(blocks), may, []int{last + 1}, nil)
			wantSortedOn(t, d, d.Load(blocks), list, false)
		}
	}
}

// wantFailed: as wantUnsorted, for a disk that can be asked once only.
func wantFailed(t *testing.T, d *disk.Disk, in int, want collate.Errno) {
	t.Helper()
	blocks := d.Blocks(in)
	if f, e := collate.Sort(d, in, false); f != 0 || e != want {
		t.Errorf("P6: %d may be held, call %d: %d, %d, want 0, %d", d.May(), d.Calls(), f, e, want)
	}
	if !slices.Equal(d.Files(), []int{in}) || !slices.Equal(d.Blocks(in), blocks) || d.Held() != 0 {
		t.Errorf("P6: %d may be held, call %d: files %v; %d blocks are held", d.May(), d.Calls(), d.Files(), d.Held())
	}
}

// From some call on the disk does nothing any more: the answer is ErrDisk all the same, and no block is held.
func TestSortManyFaults(t *testing.T) {
	for _, list := range troubled() {
		blocks := cut(write(list...))
		last := callsFor(blocks, 3, false)
		for at := 1; at <= last; at++ {
			d := disk.New(enough(blocks), 3, upTo(at, 2*last), nil)
			in := d.Load(blocks)
			if f, e := collate.Sort(d, in, false); f != 0 || e != collate.ErrDisk || d.Held() != 0 || !slices.Equal(d.Blocks(in), blocks) {
				t.Errorf("P6: call %d and all behind it cannot be done: %d, %d, %d held", at, f, e, d.Held())
			}
		}
	}
}

func TestSortNoFile(t *testing.T) {
	for _, in := range []int{-1, 1, 2, 3, math.MinInt, math.MaxInt} {
		d := disk.New(100, 3, nil, nil)
		d.Load(nil)
		gone := d.Load(nil)
		d.Delete(gone)
		f, e := collate.Sort(d, in, false)
		if f != 0 || e != collate.ErrDisk || !slices.Equal(d.Files(), []int{0}) {
			t.Errorf("P6: file %d is none: %d, %d, files %v", in, f, e, d.Files())
		}
	}
}

func TestSortFullDisk(t *testing.T) {
	none := disk.New(0, 3, nil, nil)
	wantSortedOn(t, none, none.Load(nil), nil, false)
	for _, list := range troubled()[1:] {
		blocks := cut(write(list...))
		for _, may := range []int{3, 5, 1000} {
			for room := -1; room < len(blocks); room++ {
				d := disk.New(room, may, nil, nil)
				wantFailed(t, d, d.Load(blocks), collate.ErrFull)
			}
			for room := len(blocks); room < enough(blocks); room++ {
				d := disk.New(room, may, nil, nil)
				in := d.Load(blocks)
				if f, e := collate.Sort(d, in, false); e == collate.OK {
					wantBlocks(t, d, f, cut(write(putInOrder(list, false)...)))
				} else if f != 0 || e != collate.ErrFull || !slices.Equal(d.Files(), []int{in}) || d.Held() != 0 {
					t.Errorf("P6: room %d for %d blocks: %d, %d, files %v", room, len(blocks), f, e, d.Files())
				}
			}
		}
	}
}

// A disk that is full and then does not delete: what was named first is told.
func TestSortFullDiskThatDeletesNothing(t *testing.T) {
	blocks := cut(write(many(30, 20, mixed)...))
	d := disk.New(4, 3, nil, nil)
	collate.Sort(d, d.Load(blocks), false)
	first := d.Calls() - len(blocks)
	for at := first; at <= d.Calls(); at++ {
		again := disk.New(4, 3, upTo(at, 1000), nil)
		_, e := collate.Sort(again, again.Load(blocks), false)
		if e != collate.ErrFull && e != collate.ErrDisk {
			t.Errorf("P6: %d", e)
		}
		if at == d.Calls() && e != collate.ErrFull {
			t.Errorf("P1: no room, and then a Delete that is not done: %d", e)
		}
	}
}

func wantBlocks(t *testing.T, d *disk.Disk, f int, want []string) {
	t.Helper()
	if !slices.Equal(d.Blocks(f), want) {
		t.Errorf("P6: %.200q, want %.200q", d.Blocks(f), want)
	}
	if len(d.Files()) != 2 || d.Held() != 0 {
		t.Errorf("P6: files %v, %d blocks are held", d.Files(), d.Held())
	}
}

// bitsApart tells in how many bits two rows of blocks are apart; -1: by more than bits.
func bitsApart(a []string, b []string) int {
	if len(a) != len(b) {
		return -1
	}
	n := 0
	for i := range a {
		if len(a[i]) != len(b[i]) {
			return -1
		}
		for k := range len(a[i]) {
			for bit := range 8 {
				n += int((a[i][k] ^ b[i][k]) >> bit & 1)
			}
		}
	}
	return n
}

// One bit is turned at some call, in some file: the answer is ErrSum, or the file is right but for that bit.
func TestSortOneBitTurned(t *testing.T) {
	r := rand.New(rand.NewSource(10))
	told := map[collate.Errno]int{}
	for _, list := range troubled()[1:] {
		blocks := cut(write(list...))
		want := cut(write(putInOrder(list, false)...))
		last := callsFor(blocks, 3, false)
		for range 3000 {
			rot := disk.Rot{At: 1 + r.Intn(last), File: r.Int(), Block: r.Int(), Bit: r.Int()}
			d := disk.New(enough(blocks), 3, nil, []disk.Rot{rot})
			in := d.Load(blocks)
			f, e := collate.Sort(d, in, false)
			told[e]++
			right := e == collate.ErrSum && f == 0 && slices.Equal(d.Files(), []int{in})
			if e == collate.OK {
				apart := bitsApart(d.Blocks(f), want)
				right = (apart == 0 || apart == 1) && len(d.Files()) == 2
			}
			if !right || d.Held() != 0 {
				t.Fatalf("P6: %+v: %d, %d, files %v, %d blocks are held", rot, f, e, d.Files(), d.Held())
			}
		}
	}
	if told[collate.OK] < 1000 || told[collate.ErrSum] < 1000 {
		t.Errorf("too few of a kind: %v", told)
	}
}

// Whatever the disk does at once: the call ends, and nothing is held.
func TestSortAnyTrouble(t *testing.T) {
	r := rand.New(rand.NewSource(11))
	for range 3000 {
		blocks := cut(write(randomRecords(r, 20)...))
		var faults []int
		var rots []disk.Rot
		for range r.Intn(3) {
			faults = append(faults, 1+r.Intn(300))
		}
		for range r.Intn(5) {
			rots = append(rots, disk.Rot{At: 1 + r.Intn(300), File: r.Int(), Block: r.Int(), Bit: r.Int()})
		}
		d := disk.New(r.Intn(enough(blocks)), 3+r.Intn(4), faults, rots)
		in := d.Load(blocks)
		f, e := collate.Sort(d, in, r.Intn(2) == 0)
		files := []int{in}
		switch e {
		case collate.OK:
			files = append(files, f)
		case collate.ErrSum, collate.ErrData, collate.ErrFull, collate.ErrDisk:
		default:
			t.Fatalf("P6: %d", e)
		}
		if e != collate.OK && f != 0 || d.Held() != 0 || len(d.Files()) > len(files)+len(faults) {
			t.Fatalf("P6: %d, %d, files %v, %d blocks are held", f, e, d.Files(), d.Held())
		}
	}
}

// mostCalls is what P7 says, for B blocks of which H may be held.
func mostCalls(b int, h int) int {
	l, n := 0, 1
	for n < b+1 {
		n *= h - 1
		l++
	}
	return 100 + 40*b*(4+l)
}

func TestSortCalls(t *testing.T) {
	for _, key := range []func(int) string{rising, falling, mixed, equal} {
		for _, size := range []int{5, 50, 100} {
			for _, n := range []int{0, 1, 2, 3, 10, 100, 1000} {
				blocks := cut(write(many(n, size, key)...))
				for _, may := range []int{3, 4, 5, 10, 1000} {
					if calls, most := callsFor(blocks, may, false), mostCalls(len(blocks), may); calls > most {
						t.Errorf("P7: %d blocks, %d may be held: %d calls, may be %d", len(blocks), may, calls, most)
					}
				}
			}
		}
	}
}
