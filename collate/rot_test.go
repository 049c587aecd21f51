package collate_test

import (
	"slices"
	"strings"
	"testing"

	"collate/collate"
	"collate/disk"
)

// rotCase is a file that is sorted on a disk that turns bits.
type rotCase struct {
	blocks, want []string // what is in the file, and what is in the one that is answered
	may          int
	once         bool
	calls        int // how many calls it takes on a disk that turns none
}

func rotCasesOf(list []collate.Record, may int) []rotCase {
	var cases []rotCase
	blocks := cut(write(list...))
	for _, once := range []bool{false, true} {
		want := cut(write(putInOrder(list, once)...))
		cases = append(cases, rotCase{blocks, want, may, once, callsFor(blocks, may, once)})
	}
	return cases
}

// filesAt answers what is in each file, by its number, when a call is made: a disk that does nothing from that call on leaves all as it is then.
func (c rotCase) filesAt(at int) map[int][]string {
	d := disk.New(enough(c.blocks), c.may, upTo(at, 3*c.calls), nil)
	collate.Sort(d, d.Load(c.blocks), c.once)
	files := map[int][]string{}
	for _, f := range d.Files() {
		files[f] = d.Blocks(f)
	}
	return files
}

// bitsApart tells in how many bits two rows of blocks are apart; -1: by more than bits.
func bitsApart(a []string, b []string) int {
	if len(a) != len(b) {
		return -1
	}
	n := 0
	for i := range a {
		if len(a[i]) != len(b[i]) {
			return -1
		}
		n += len(rotsInto(disk.Rot{}, a[i], b[i]))
	}
	return n
}

// rotsInto answers what a disk must turn, at the call and in the block of rot, to make another block of one.
func rotsInto(rot disk.Rot, from string, to string) []disk.Rot {
	var rots []disk.Rot
	for rot.Bit = range 8 * len(from) {
		if (from[rot.Bit/8]^to[rot.Bit/8])>>(rot.Bit%8)&1 == 1 {
			rots = append(rots, rot)
		}
	}
	return rots
}

// wantRotTold: with one bit turned the answer is ErrSum, and nothing is left; or the file is right, but for that bit, if it is one of that file.
func (c rotCase) wantRotTold(t *testing.T, rot disk.Rot) collate.Errno {
	t.Helper()
	d := disk.New(enough(c.blocks), c.may, nil, []disk.Rot{rot})
	in := d.Load(c.blocks)
	f, e := collate.Sort(d, in, c.once)
	right := e == collate.ErrSum && f == 0 && slices.Equal(d.Files(), []int{in})
	if e == collate.OK {
		apart := bitsApart(d.Blocks(f), c.want)
		right = (apart == 0 || apart == 1 && rot.File == f) && slices.Equal(d.Files(), []int{in, f})
	}
	if !right {
		t.Fatalf("P6: %d may be held, once %v, %+v: %d, %d, files %v", c.may, c.once, rot, f, e, d.Files())
	}
	wantNoneHeld(t, d, len(c.blocks))
	return e
}

// wantRotsTold turns bits at every call, in every block of every file that there is then: every so manyth one of a block.
func (c rotCase) wantRotsTold(t *testing.T, step int, told map[collate.Errno]int) {
	t.Helper()
	for at := 1; at <= c.calls; at++ {
		for f, file := range c.filesAt(at) {
			for k, block := range file {
				for bit := (at*31 + k*17) % step; bit < 8*len(block); bit += step {
					told[c.wantRotTold(t, disk.Rot{At: at, File: f, Block: k, Bit: bit})]++
				}
			}
		}
	}
}

func TestSortOneBitTurned(t *testing.T) {
	told := map[collate.Errno]int{}
	for _, list := range [][]collate.Record{many(1, 100, rising), many(12, 5, falling), many(30, 5, mixed), many(12, 20, equal), many(6, 100, falling)} {
		for _, c := range slices.Concat(rotCasesOf(list, 3), rotCasesOf(list, 4)) {
			c.wantRotsTold(t, 151, told)
		}
	}
	for _, c := range rotCasesOf(many(10, 5, falling), 3) {
		c.wantRotsTold(t, 1, told)
	}
	wantEach(t, told, 10000, collate.OK, collate.ErrSum)
}

// A bit is turned, and then a call cannot be done: the answer is one of both errors, and nothing is left.
func TestSortBitTurnedAndFault(t *testing.T) {
	told := map[collate.Errno]int{}
	for _, c := range rotCasesOf(many(12, 5, falling), 3) {
		for at := 1; at <= c.calls; at++ {
			for fault := at; fault <= c.calls; fault++ {
				rots := []disk.Rot{{At: at, File: at % 3, Block: fault, Bit: at * fault}}
				d := disk.New(enough(c.blocks), c.may, []int{fault}, rots)
				f, e := collate.Sort(d, d.Load(c.blocks), c.once)
				told[e]++
				// The one that cannot be done may be the Delete of a file, after ErrSum.
				if f != 0 || e != collate.ErrSum && e != collate.ErrDisk || len(d.Files()) > 2 || e == collate.ErrDisk && len(d.Files()) != 1 {
					t.Fatalf("P6: %+v, call %d cannot be done: %d, %d, files %v", rots, fault, f, e, d.Files())
				}
				wantNoneHeld(t, d, len(c.blocks))
			}
		}
	}
	wantEach(t, told, 100, collate.ErrSum, collate.ErrDisk)
}

// broken are pieces of which no file of records is made, wherever they stand.
var broken = []string{strings.Repeat("\x00", 60), strings.Repeat("\xff", 60), strings.Repeat("\x02xx\x01y", 12)}

// The disk makes whole blocks, with their sums, of others. Sums tell nothing then: what was read is no file of records.
func TestSortBlockMadeAnother(t *testing.T) {
	told := map[collate.Errno]int{}
	for _, c := range slices.Concat(rotCasesOf(many(12, 5, falling), 3), rotCasesOf(many(30, 20, mixed), 4)) {
		for at := 1; at <= c.calls; at++ {
			for f, file := range c.filesAt(at) {
				for _, piece := range broken {
					if len(file) > 0 && len(file[0]) == disk.Size {
						told[c.wantBroken(t, rotsInto(disk.Rot{At: at, File: f}, file[0], seal(piece)))]++
					}
				}
			}
		}
	}
	wantEach(t, told, 100, collate.OK, collate.ErrData)
}

// wantBroken: the answer is ErrData, and nothing is left; or it is OK, for nobody looked at that block again.
func (c rotCase) wantBroken(t *testing.T, rots []disk.Rot) collate.Errno {
	t.Helper()
	d := disk.New(enough(c.blocks), c.may, nil, rots)
	in := d.Load(c.blocks)
	f, e := collate.Sort(d, in, c.once)
	files := []int{in}
	if e == collate.OK {
		files = append(files, f)
	}
	if e != collate.OK && e != collate.ErrData || e != collate.OK && f != 0 || !slices.Equal(d.Files(), files) {
		t.Fatalf("P6: call %d, file %d: %d, %d, files %v", rots[0].At, rots[0].File, f, e, d.Files())
	}
	wantNoneHeld(t, d, len(c.blocks))
	return e
}

// The disk makes other records of some, so that runs are no longer in order: the call ends, with OK or ErrData, and nothing is left.
func TestSortRecordsMadeOthers(t *testing.T) {
	others := write(many(3, 10, falling)...)[:60]
	last := write(rec("tzzzzzzzz", strings.Repeat("z", 49)))
	for _, c := range slices.Concat(rotCasesOf(many(40, 5, falling), 3), rotCasesOf(many(30, 20, mixed), 4)) {
		for at := 1; at <= c.calls; at++ {
			for f, file := range c.filesAt(at) {
				if len(file) > 0 && len(file[0]) == disk.Size {
					c.wantBroken(t, rotsInto(disk.Rot{At: at, File: f}, file[0], seal(others)))
					c.wantBroken(t, rotsInto(disk.Rot{At: at, File: f}, file[0], seal(last)))
				}
			}
		}
	}
}
