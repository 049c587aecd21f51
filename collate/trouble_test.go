package collate_test

import (
	"math"
	"math/rand"
	"runtime"
	"slices"
	"testing"

	"collate/collate"
	"collate/disk"
)

// troubled are files whose sorting makes few runs and many, and merges them once and more often.
func troubled() [][]collate.Record {
	return [][]collate.Record{nil, many(1, 5, mixed), many(9, 5, rising), many(12, 5, falling), many(30, 20, mixed), many(24, 100, falling)}
}

// callsFor tells how many calls the sorting of a file takes on a disk that does all that it is asked.
func callsFor(blocks []string, may int, once bool) int {
	d := disk.New(enough(blocks), may, nil, nil)
	collate.Sort(d, d.Load(blocks), once)
	return d.Calls()
}

// upTo answers the numbers from first to last.
func upTo(first int, last int) []int {
	var l []int
	for i := first; i <= last; i++ {
		l = append(l, i)
	}
	return l
}

// Whichever call cannot be done: the answer is ErrDisk, and all files are gone (each one that a Delete left is deleted again).
func TestSortOneFault(t *testing.T) {
	for _, list := range troubled() {
		blocks := cut(write(list...))
		for _, may := range []int{3, 5} {
			for _, once := range []bool{false, true} {
				last := callsFor(blocks, may, once)
				for at := 1; at <= last; at++ {
					d := disk.New(enough(blocks), may, []int{at}, nil)
					wantFailed(t, d, d.Load(blocks), once, collate.ErrDisk)
				}
				d := disk.New(enough(blocks), may, []int{last + 1}, nil)
				wantSortedOn(t, d, d.Load(blocks), list, once)
			}
		}
	}
}

// wantFailed: as wantUnsorted, for a disk that can be asked once only.
func wantFailed(t *testing.T, d *disk.Disk, in int, once bool, want collate.Errno) {
	t.Helper()
	blocks := d.Blocks(in)
	if f, e := collate.Sort(d, in, once); f != 0 || e != want {
		t.Errorf("P6: %d may be held, call %d: %d, %d, want 0, %d", d.May(), d.Calls(), f, e, want)
	}
	if !slices.Equal(d.Files(), []int{in}) || !slices.Equal(d.Blocks(in), blocks) {
		t.Errorf("P6: %d may be held, call %d: files %v", d.May(), d.Calls(), d.Files())
	}
	wantNoneHeld(t, d, len(blocks))
}

// wantNoneHeld: when Sort has answered, no block is held (P6), and it made no more calls than it may for a file of so many blocks (P7).
func wantNoneHeld(t *testing.T, d *disk.Disk, blocks int) {
	t.Helper()
	if d.Held() != 0 {
		t.Errorf("P6: call %d: %d blocks are held", d.Calls(), d.Held())
	}
	if most := mostCalls(blocks, d.May()); d.Calls() > most {
		t.Errorf("P7: %d blocks, %d may be held: %d calls, may be %d", blocks, d.May(), d.Calls(), most)
	}
}

// One call cannot be done, and then one of those that take the files away: no file is left but the one whose Delete that is.
func TestSortFaultAndThenAnother(t *testing.T) {
	left := 0
	for _, list := range troubled() {
		blocks := cut(write(list...))
		last := callsFor(blocks, 4, false)
		for at := 1; at <= last; at++ {
			one := disk.New(enough(blocks), 4, []int{at}, nil)
			collate.Sort(one, one.Load(blocks), false)
			for then := at + 1; then <= one.Calls(); then++ {
				d := disk.New(enough(blocks), 4, []int{at, then}, nil)
				in := d.Load(blocks)
				f, e := collate.Sort(d, in, false)
				if f != 0 || e != collate.ErrDisk || len(d.Files()) > 2 || !slices.Equal(d.Blocks(in), blocks) {
					t.Errorf("P6: calls %d and %d cannot be done: %d, %d, files %v", at, then, f, e, d.Files())
				}
				wantNoneHeld(t, d, len(blocks))
				left += len(d.Files()) - 1
			}
		}
	}
	if left == 0 {
		t.Errorf("no Delete was among the calls that could not be done")
	}
}

// From some call on the disk does nothing any more: the answer is ErrDisk all the same, no block is held, and each file that is left was to be deleted.
func TestSortManyFaults(t *testing.T) {
	for _, list := range troubled() {
		blocks := cut(write(list...))
		last := callsFor(blocks, 3, false)
		for at := 1; at <= last; at++ {
			d := disk.New(enough(blocks), 3, upTo(at, 2*last), nil)
			in := d.Load(blocks)
			f, e := collate.Sort(d, in, false)
			if f != 0 || e != collate.ErrDisk || !slices.Equal(d.Blocks(in), blocks) {
				t.Errorf("P6: call %d and all behind it cannot be done: %d, %d", at, f, e)
			}
			if left, asked := len(d.Files())-1, d.Calls()-at; left > asked {
				t.Errorf("P6: call %d and all behind it cannot be done: %d files are left, %d calls behind it", at, left, asked)
			}
			wantNoneHeld(t, d, len(blocks))
		}
	}
}

// Runs are told by functions that are ranged over side by side: none of them goes on when Sort has answered.
func TestSortLeavesNothingRunning(t *testing.T) {
	blocks := cut(write(many(30, 20, mixed)...))
	before := runtime.NumGoroutine()
	for at := 1; at <= callsFor(blocks, 5, false)+1; at++ {
		d := disk.New(enough(blocks), 5, []int{at}, nil)
		collate.Sort(d, d.Load(blocks), false)
		if now := runtime.NumGoroutine(); now > before {
			t.Fatalf("P6: call %d cannot be done: %d are still running", at, now-before)
		}
	}
}

// Blocks that someone else holds are not Sort's: it answers ErrDisk, or does with those that may still be held, and gives back no others.
func TestSortWhileOthersHoldBlocks(t *testing.T) {
	list := many(30, 20, mixed)
	blocks := cut(write(list...))
	told := map[collate.Errno]int{}
	for _, may := range []int{3, 4, 7} {
		for others := range may + 1 {
			d := disk.New(enough(blocks), may, nil, nil)
			in := d.Load(blocks)
			for i := range others {
				d.Read(in, i)
			}
			f, e := collate.Sort(d, in, false)
			told[e]++
			if e != collate.OK && (f != 0 || e != collate.ErrDisk || len(d.Files()) != 1) {
				t.Errorf("P6: %d of %d are held: %d, %d, files %v", others, may, f, e, d.Files())
			}
			if e == collate.OK && !slices.Equal(d.Blocks(f), cut(write(putInOrder(list, false)...))) {
				t.Errorf("P6: %d of %d are held: %.200q", others, may, d.Blocks(f))
			}
			if d.Held() != others {
				t.Errorf("P6: %d blocks are held, %d were", d.Held(), others)
			}
		}
	}
	wantEach(t, told, 3, collate.OK, collate.ErrDisk)
}

func TestSortNoFile(t *testing.T) {
	for _, in := range []int{-1, 1, 2, 3, math.MinInt, math.MaxInt} {
		for _, once := range []bool{false, true} {
			d := disk.New(100, 3, nil, nil)
			d.Load(nil)
			gone := d.Load(nil)
			d.Delete(gone)
			f, e := collate.Sort(d, in, once)
			if f != 0 || e != collate.ErrDisk || !slices.Equal(d.Files(), []int{0}) {
				t.Errorf("P6: file %d is none: %d, %d, files %v", in, f, e, d.Files())
			}
			wantNoneHeld(t, d, 0)
		}
	}
	none := disk.New(100, 3, nil, nil)
	if f, e := collate.Sort(none, 0, false); f != 0 || e != collate.ErrDisk || len(none.Files()) != 0 {
		t.Errorf("P6: a disk without files: %d, %d, files %v", f, e, none.Files())
	}
}

func TestSortFullDisk(t *testing.T) {
	none := disk.New(0, 3, nil, nil)
	wantSortedOn(t, none, none.Load(nil), nil, false)
	for _, list := range troubled()[1:] {
		for _, may := range []int{3, 5, 1000} {
			wantFullAtAnyPlace(t, list, may, false)
			wantFullAtAnyPlace(t, list, may, true)
		}
	}
}

// wantFullAtAnyPlace sorts on disks with more and more room: too little for what is to be answered; enough for it, but maybe not for its runs; enough for all.
func wantFullAtAnyPlace(t *testing.T, list []collate.Record, may int, once bool) {
	t.Helper()
	blocks, want := cut(write(list...)), cut(write(putInOrder(list, once)...))
	for room := -1; room < len(want); room++ {
		d := disk.New(room, may, nil, nil)
		wantFailed(t, d, d.Load(blocks), once, collate.ErrFull)
	}
	for room := len(want); room < enough(blocks); room++ {
		d := disk.New(room, may, nil, nil)
		in := d.Load(blocks)
		if f, e := collate.Sort(d, in, once); e == collate.OK {
			wantBlocks(t, d, f, want)
		} else if f != 0 || e != collate.ErrFull || !slices.Equal(d.Files(), []int{in}) {
			t.Errorf("P6: room %d for %d blocks: %d, %d, files %v", room, len(blocks), f, e, d.Files())
		}
		wantNoneHeld(t, d, len(blocks))
	}
	d := disk.New(enough(blocks), may, nil, nil)
	wantSortedOn(t, d, d.Load(blocks), list, once)
}

// A disk that is full and then does not delete: what was named first is told.
func TestSortFullDiskThatDeletesNothing(t *testing.T) {
	blocks := cut(write(many(30, 20, mixed)...))
	d := disk.New(4, 3, nil, nil)
	collate.Sort(d, d.Load(blocks), false)
	first := d.Calls() - len(blocks)
	for at := first; at <= d.Calls(); at++ {
		again := disk.New(4, 3, upTo(at, 1000), nil)
		_, e := collate.Sort(again, again.Load(blocks), false)
		if e != collate.ErrFull && e != collate.ErrDisk {
			t.Errorf("P6: %d", e)
		}
		if at == d.Calls() && e != collate.ErrFull {
			t.Errorf("P1: no room, and then a Delete that is not done: %d", e)
		}
	}
}

func wantBlocks(t *testing.T, d *disk.Disk, f int, want []string) {
	t.Helper()
	if !slices.Equal(d.Blocks(f), want) {
		t.Errorf("P6: %.200q, want %.200q", d.Blocks(f), want)
	}
	if len(d.Files()) != 2 || d.Held() != 0 {
		t.Errorf("P6: files %v, %d blocks are held", d.Files(), d.Held())
	}
}

// Whatever the disk does at once: the call ends, nothing is held, and if no more than one bit was turned, no wrong file is answered.
func TestSortAnyTrouble(t *testing.T) {
	r := rand.New(rand.NewSource(11))
	told := map[collate.Errno]int{}
	for range 6000 {
		list := randomRecords(r, 20)
		blocks := cut(write(list...))
		var faults []int
		var rots []disk.Rot
		for range r.Intn(3) {
			faults = append(faults, 1+r.Intn(300))
		}
		for range r.Intn(4) {
			rots = append(rots, disk.Rot{At: 1 + r.Intn(300), File: r.Int(), Block: r.Int(), Bit: r.Int()})
		}
		d := disk.New(r.Intn(enough(blocks)), 3+r.Intn(4), faults, rots)
		in := d.Load(blocks)
		once := r.Intn(2) == 0
		f, e := collate.Sort(d, in, once)
		told[e]++
		files := 1
		if e == collate.OK {
			files++
		}
		if e != collate.OK && f != 0 || len(d.Files()) > files+len(faults) {
			t.Fatalf("P6: %d, %d, files %v", f, e, d.Files())
		}
		if apart := bitsApart(d.Blocks(f), cut(write(putInOrder(list, once)...))); e == collate.OK && len(rots) < 2 && (apart < 0 || apart > len(rots)) {
			t.Fatalf("P6: %d, %+v: %.200q", f, rots, d.Blocks(f))
		}
		wantNoneHeld(t, d, len(blocks))
	}
	for e := range told {
		if !slices.Contains([]collate.Errno{collate.OK, collate.ErrSum, collate.ErrData, collate.ErrFull, collate.ErrDisk}, e) {
			t.Errorf("P6: the answer is %d", e)
		}
	}
	wantEach(t, told, 500, collate.OK, collate.ErrSum, collate.ErrFull, collate.ErrDisk)
}

// mostCalls is what P7 says, for B blocks of which H may be held.
func mostCalls(b int, h int) int {
	l, n := 0, 1
	for n < b+1 {
		n *= h - 1
		l++
	}
	return 100 + 40*b*(4+l)
}

// The numbers by hand: the steps stand where a power of what may be held is one more than the blocks are.
func TestMostCalls(t *testing.T) {
	for _, c := range [][3]int{{0, 3, 100}, {1, 3, 300}, {2, 3, 580}, {3, 3, 820}, {4, 3, 1220}, {8, 4, 2020}, {9, 4, 2620}, {99, 11, 23860}, {999, 1000, 239860}, {999, 1001, 199900}} {
		if got := mostCalls(c[0], c[1]); got != c[2] {
			t.Errorf("%d blocks, %d may be held: %d, want %d", c[0], c[1], got, c[2])
		}
	}
}

func TestSortCalls(t *testing.T) {
	for _, key := range []func(int) string{rising, falling, mixed, equal} {
		for _, size := range []int{5, 50, 100} {
			for _, n := range []int{0, 1, 2, 3, 10, 100, 1000} {
				wantFewCalls(t, cut(write(many(n, size, key)...)), []int{3, 4, 5, 10, 1000})
			}
		}
	}
}

// A long file: runs that are not merged level by level take too many calls for it.
func TestSortCallsForLongFile(t *testing.T) {
	wantFewCalls(t, cut(write(many(20000, 40, falling)...)), []int{3, 30, math.MaxInt >> 20})
}

func wantFewCalls(t *testing.T, blocks []string, mays []int) {
	t.Helper()
	for _, may := range mays {
		for _, once := range []bool{false, true} {
			if calls, most := callsFor(blocks, may, once), mostCalls(len(blocks), may); calls > most {
				t.Errorf("P7: %d blocks, %d may be held, once %v: %d calls, may be %d", len(blocks), may, once, calls, most)
			}
		}
	}
}
