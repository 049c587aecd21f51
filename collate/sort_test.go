package collate_test

import (
	"math"
	"math/rand"
	"slices"
	"strconv"
	"strings"
	"testing"

	"collate/collate"
	"collate/disk"
)

// mays are numbers of blocks that may be held, the least one among them.
var mays = []int{3, 4, 5, 8, 1000, math.MaxInt}

// putInOrder answers the records put in order: what Sort writes.
func putInOrder(list []collate.Record, once bool) []collate.Record {
	out := slices.Clone(list)
	slices.SortStableFunc(out, func(a, b collate.Record) int { return collate.Order(a.Key, b.Key) })
	if once {
		out = slices.CompactFunc(out, func(a, b collate.Record) bool { return collate.Order(a.Key, b.Key) == 0 })
	}
	return out
}

// enough is the room that is promised to be enough for a file.
func enough(blocks []string) int { return 4*len(blocks) + 8 }

// wantSortedOn sorts file in of a disk, which must be enough for it, and looks at all that P5 says.
func wantSortedOn(t *testing.T, d *disk.Disk, in int, list []collate.Record, once bool) {
	t.Helper()
	files, blocks := d.Files(), d.Blocks(in)
	f, e := collate.Sort(d, in, once)
	if e != collate.OK {
		t.Fatalf("P5: %d blocks, %d may be held, once %v: %d", len(blocks), d.May(), once, e)
	}
	if want := cut(write(putInOrder(list, once)...)); !slices.Equal(d.Blocks(f), want) {
		t.Errorf("P5: %d blocks, %d may be held, once %v: %.200q, want %.200q", len(blocks), d.May(), once, d.Blocks(f), want)
	}
	if slices.Contains(files, f) || !slices.Equal(d.Files(), append(files, f)) {
		t.Errorf("P5: the file is %d, the files are %v, and were %v", f, d.Files(), files)
	}
	if !slices.Equal(d.Blocks(in), blocks) || d.Held() != 0 {
		t.Errorf("P5: the file in is another one, or %d blocks are held", d.Held())
	}
}

func wantSorted(t *testing.T, list []collate.Record) {
	t.Helper()
	blocks := cut(write(list...))
	for _, may := range mays {
		for _, once := range []bool{false, true} {
			d := disk.New(enough(blocks), may, nil, nil)
			wantSortedOn(t, d, d.Load(blocks), list, once)
		}
	}
}

// many answers n records; key makes the key of one, and the values have so many bytes (5 or more) and are all others.
func many(n int, size int, key func(i int) string) []collate.Record {
	var list []collate.Record
	for i := range n {
		v := strconv.Itoa(i)
		list = append(list, rec(key(i), strings.Repeat("-", max(0, size-len(v)))+v))
	}
	return list
}

func rising(i int) string  { return numberKey(int64(i)) }
func falling(i int) string { return numberKey(int64(-i)) }
func mixed(i int) string   { return numberKey(int64(i * 7919 % 101)) }
func equal(int) string     { return numberKey(5) }

func TestSortFewRecords(t *testing.T) {
	wantSorted(t, nil)
	wantSorted(t, []collate.Record{rec("t", "")})
	wantSorted(t, []collate.Record{rec("tb", "1"), rec("ta", "2")})
	wantSorted(t, []collate.Record{rec("ta", "1"), rec("tb", "2")})
	wantSorted(t, []collate.Record{rec("ta", "1"), rec("ta", "2")})
	wantSorted(t, []collate.Record{rec("ta", "1"), rec("ta", "1")})
	for n := range 40 {
		wantSorted(t, many(n, 5, falling))
		wantSorted(t, many(n, 100, mixed))
	}
}

func TestSortOrders(t *testing.T) {
	for _, key := range []func(int) string{rising, falling, mixed, equal} {
		for _, size := range []int{5, 40, 49, 50, 51, 100} {
			wantSorted(t, many(600, size, key))
		}
	}
	// Up and down again: runs of very other lengths.
	wantSorted(t, append(many(300, 5, rising), many(300, 5, falling)...))
	wantSorted(t, append(many(300, 5, falling), many(300, 5, rising)...))
	zigzag := func(i int) string { return numberKey(int64(i * (1 - 2*(i%2)))) }
	wantSorted(t, many(600, 5, zigzag))
}

func TestSortSmallestRecords(t *testing.T) {
	var same, two []collate.Record
	for i := range 900 {
		same = append(same, rec("t", ""))
		two = append(two, rec(strings.Repeat("t", 1+i%2), ""))
	}
	wantSorted(t, same)
	wantSorted(t, two)
}

func TestSortGreatestRecords(t *testing.T) {
	wantSorted(t, many(200, 100, func(i int) string {
		return "t" + strings.Repeat(string(rune('a'+i%7)), 38) + string(rune('z'-i%11))
	}))
}

// Runs of one record each, and the pieces cut so that they need the most room.
func TestSortNeedsNoMoreRoom(t *testing.T) {
	for size := 5; size <= 100; size++ {
		wantSorted(t, many(100, size, falling))
	}
}

// Keys that are not the same and stand together: by arrival, and of once each the first, whichever that is.
func TestSortKeysThatStandTogether(t *testing.T) {
	minus0 := math.Copysign(0, -1)
	var keys []string
	for _, re := range []float64{math.NaN(), math.Float64frombits(0x7ff0000000000001), 0, minus0, 1} {
		for _, im := range []float64{math.Float64frombits(0xfff8000000000000), math.NaN(), minus0, 0, -1} {
			keys = append(keys, pointKey(re, im))
		}
	}
	for _, step := range []int{1, 2, 7, 24} {
		wantSorted(t, many(500, 5, func(i int) string { return keys[i*step%len(keys)] }))
	}
	d := disk.New(100, 3, nil, nil)
	in := d.Load(cut(write(rec("ta", "1"), rec(pointKey(minus0, 0), "2"), rec(pointKey(0, minus0), "3"), rec("ta", "4"))))
	f, _ := collate.Sort(d, in, true)
	wantDecoded(t, d.Blocks(f), []collate.Record{rec(pointKey(minus0, 0), "2"), rec("ta", "1")})
}

func TestSortAllKindsOfKeys(t *testing.T) {
	r := rand.New(rand.NewSource(7))
	for range 60 {
		wantSorted(t, randomRecords(r, 200))
	}
}

func TestSortLongFile(t *testing.T) {
	r := rand.New(rand.NewSource(8))
	list := many(30000, 5, func(int) string { return numberKey(r.Int63n(20000) - 10000) })
	blocks := cut(write(list...))
	for _, may := range []int{3, 17, 1000} {
		d := disk.New(enough(blocks), may, nil, nil)
		wantSortedOn(t, d, d.Load(blocks), list, may == 17)
	}
}

// madeFor tells how many files Sort makes, the one that it answers among them.
func madeFor(blocks []string, may int) int {
	d := disk.New(enough(blocks), may, nil, nil)
	in := d.Load(blocks)
	collate.Sort(d, in, false)
	next, _ := d.Create()
	return next - in - 1
}

// No more waits in memory than may be held, so a long file makes many runs; and these are merged as many at a time as may be held.
func TestSortMakesRunsAndMerges(t *testing.T) {
	const size = 16 // how many bytes a record has
	blocks := cut(write(many(3000, 5, falling)...))
	for _, may := range []int{3, 4, 8, 20} {
		waits := 60 * (may - 2)
		least := 3000 * size / (waits + size)
		runs := 3000*size/waits + 1
		most := runs + (runs-1)/(may-2) + 5
		if made := madeFor(blocks, may); made < least || made > most {
			t.Errorf("%d may be held: %d files, want %d to %d", may, made, least, most)
		}
	}
	if made := madeFor(blocks, len(blocks)+2); made != 1 {
		t.Errorf("all may be held: %d files", made)
	}
}

func TestSortWhatIsInOrderMakesOneRun(t *testing.T) {
	for _, key := range []func(int) string{rising, equal} {
		for _, may := range mays {
			if made := madeFor(cut(write(many(300, 20, key)...)), may); made != 1 {
				t.Errorf("%d may be held: %d files", may, made)
			}
		}
	}
}

// The file is neither the first nor the last one of its disk, and the others stay as they are.
func TestSortAmongOtherFiles(t *testing.T) {
	list := many(200, 5, mixed)
	blocks := cut(write(list...))
	others := []string{"no piece", ""}
	d := disk.New(enough(blocks), 3, nil, nil)
	first, in, last := d.Load(others), d.Load(blocks), d.Load(others)
	wantSortedOn(t, d, in, list, false)
	wantSortedOn(t, d, in, list, true)
	if !slices.Equal(d.Blocks(first), others) || !slices.Equal(d.Blocks(last), others) {
		t.Errorf("P5: another file is not as it was")
	}
}

// A file that was written by calls, and is not the first that was made.
func TestSortWrittenFile(t *testing.T) {
	list := many(200, 40, falling)
	blocks := cut(write(list...))
	d := disk.New(len(blocks)+enough(blocks), 3, nil, nil)
	gone, _ := d.Create()
	in, _ := d.Create()
	d.Delete(gone)
	for _, b := range blocks {
		d.Append(in, b)
	}
	wantSortedOn(t, d, in, list, false)
}

func TestSortWhatWasSorted(t *testing.T) {
	list := many(300, 30, mixed)
	blocks := cut(write(list...))
	d := disk.New(2*enough(blocks), 4, nil, nil)
	once, _ := collate.Sort(d, d.Load(blocks), false)
	wantSortedOn(t, d, once, putInOrder(list, false), false)
}

// Equal disks are asked the same calls, and answer the same.
func TestSortDoesTheSameAgain(t *testing.T) {
	blocks := cut(write(many(300, 30, mixed)...))
	var first *disk.Disk
	for range 5 {
		d := disk.New(enough(blocks), 4, []int{350, 351, 353}, nil)
		collate.Sort(d, d.Load(blocks), false)
		if first == nil {
			first = d
		}
		if d.Calls() != first.Calls() || !slices.Equal(d.Files(), first.Files()) {
			t.Errorf("P1: %d calls and files %v, then %d and %v", first.Calls(), first.Files(), d.Calls(), d.Files())
		}
	}
}

// wantUnsorted: the answer is this error, and there is nothing left of the call.
func wantUnsorted(t *testing.T, d *disk.Disk, in int, want collate.Errno) {
	t.Helper()
	files, blocks := d.Files(), d.Blocks(in)
	for _, once := range []bool{false, true} {
		if f, e := collate.Sort(d, in, once); f != 0 || e != want {
			t.Errorf("P5: Sort of %.200q, %d may be held: %d, %d, want 0, %d", blocks, d.May(), f, e, want)
		}
		if !slices.Equal(d.Files(), files) || !slices.Equal(d.Blocks(in), blocks) || d.Held() != 0 {
			t.Errorf("P5: files %v, want %v; %d blocks are held", d.Files(), files, d.Held())
		}
	}
}

func TestSortFewBlocksMayBeHeld(t *testing.T) {
	good := cut(write(many(30, 5, mixed)...))
	for _, may := range []int{2, 1, 0, -1, math.MinInt} {
		for _, blocks := range [][]string{good, good[:1], nil, {"no piece"}} {
			for _, file := range []int{0, 1, -1} { // only 0 is one
				d := disk.New(100, may, nil, nil)
				d.Load(blocks)
				wantUnsorted(t, d, file, collate.ErrHold)
				if d.Calls() != 0 {
					t.Errorf("P5: %d may be held: %d calls", may, d.Calls())
				}
			}
		}
	}
}

// wantAsDecode: Sort tells of a file what Decode tells of its blocks.
func wantAsDecode(t *testing.T, blocks []string) collate.Errno {
	t.Helper()
	list, want, _ := collate.Decode(blocks)
	for _, may := range []int{3, 4, 1000} {
		d := disk.New(enough(blocks), may, nil, nil)
		in := d.Load(blocks)
		if want == collate.OK {
			wantSortedOn(t, d, in, list, false)
		} else {
			wantUnsorted(t, d, in, want)
		}
	}
	return want
}

func wantSortTells(t *testing.T, blocks []string, want collate.Errno) {
	t.Helper()
	if e := wantAsDecode(t, blocks); e != want {
		t.Errorf("P4: Decode(%.200q) answers %d, want %d", blocks, e, want)
	}
}

func TestSortSeesEveryBit(t *testing.T) {
	good := cut(write(many(15, 5, falling)...))
	for i, block := range good {
		for bit := range 8 * len(block) {
			bad := slices.Clone(good)
			bad[i] = turnBit(block, bit)
			wantSortTells(t, bad, collate.ErrSum)
		}
	}
}

func TestSortBlocksThatAreNoPieces(t *testing.T) {
	good := cut(write(many(15, 5, falling)...))
	for _, block := range []string{"", "a", "abcd", seal(""), seal(strings.Repeat("\x01t\x00", 21)), strings.Repeat("x", 1000)} {
		for i := range good {
			bad := slices.Clone(good)
			bad[i] = block
			wantSortTells(t, bad, collate.ErrSum)
		}
	}
}

func TestSortBrokenOff(t *testing.T) {
	whole := write(many(15, 5, falling)...)
	for size := range len(whole) {
		want := collate.ErrData
		if size%16 == 0 { // how many bytes a record has
			want = collate.OK
		}
		wantSortTells(t, cut(whole[:size]), want)
	}
}

func TestSortNoFilesOfRecords(t *testing.T) {
	one := write(rec("ta", "x"))
	twelve := strings.Repeat(one, 12)
	for _, pieces := range [][]string{{one, one}, {twelve, one, one}, {one, twelve}, {twelve[:59], twelve[59:]}, {"\x00\x00"}, {"\x01t\x65" + one}, {"\x01t\x80\x00"}, {"\x81\x00t\x00"}} {
		wantSortTells(t, sealEach(pieces...), collate.ErrData)
	}
	for _, k := range noKeys {
		if len(k) < 128 {
			wantSortTells(t, cut(twelve+write(rec(k, "x"))+twelve), collate.ErrData)
		}
	}
	wantSortTells(t, cut(twelve+write(rec("t", strings.Repeat("v", 101)))+twelve), collate.ErrData)
}

// A sum that is another one goes ahead of all that is wrong with the records, be it the last block's.
func TestSortWhereBothErrorsApply(t *testing.T) {
	one := write(rec("ta", "x"))
	twelve := strings.Repeat(one, 12)
	for _, pieces := range [][]string{{one, twelve}, {"\x00\x00", twelve}, {strings.Repeat("\x00", 60), twelve}, {twelve, "\x02t"}} {
		blocks := append(sealEach(pieces...), sealEach(twelve, twelve, one)...)
		wantSortTells(t, blocks, collate.ErrData)
		wantSortTells(t, append(blocks, "?"), collate.ErrSum)
		for i := range blocks {
			bad := slices.Clone(blocks)
			bad[i] = turnBit(bad[i], 9)
			wantSortTells(t, bad, collate.ErrSum)
		}
	}
}

// What is wrong with the file is told even where the disk has no room.
func TestSortWrongFileOnFullDisk(t *testing.T) {
	good := cut(write(many(60, 5, falling)...))
	for room := range 20 {
		d := disk.New(room, 3, nil, nil)
		wantUnsorted(t, d, d.Load(append(slices.Clone(good), "?")), collate.ErrSum)
		wantUnsorted(t, d, d.Load(good[:len(good)-1]), collate.ErrData)
	}
}

func TestSortAnything(t *testing.T) {
	r := rand.New(rand.NewSource(9))
	told := map[collate.Errno]int{}
	for range 3000 {
		content := []byte(write(randomRecords(r, 6)...))
		if len(content) > 0 && r.Intn(3) == 0 {
			content[r.Intn(len(content))] = byte(r.Intn(130))
			content = content[:1+r.Intn(len(content))]
		}
		blocks := cut(string(content))
		if len(blocks) > 0 && r.Intn(4) == 0 {
			blocks[r.Intn(len(blocks))] = randomBytes(r, 70)
		}
		told[wantAsDecode(t, blocks)]++
	}
	wantEach(t, told, 300, collate.OK, collate.ErrSum, collate.ErrData)
}
