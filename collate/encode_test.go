package collate_test

import (
	"math/rand"
	"slices"
	"strings"
	"testing"

	"collate/collate"
)

func wantEncoded(t *testing.T, list []collate.Record, want []string) {
	t.Helper()
	blocks, e, at := collate.Encode(list)
	if e != collate.OK || at != 0 {
		t.Errorf("P3: Encode(%.80q) answers %d, %d, want OK, 0", fields(list), e, at)
	}
	if !slices.Equal(blocks, want) {
		t.Errorf("P3: Encode(%.80q) = %q, want %q", fields(list), blocks, want)
	}
}

func wantRefused(t *testing.T, list []collate.Record, want collate.Errno, place int) {
	t.Helper()
	blocks, e, at := collate.Encode(list)
	if e != want || at != place || len(blocks) != 0 {
		t.Errorf("P3: Encode(%.80q) = %q, %d, %d, want none, %d, %d", fields(list), blocks, e, at, want, place)
	}
}

// Bytes that were reckoned apart from the code here: a slip that the tests' own sums shared with the program would show.
func TestEncodeBytes(t *testing.T) {
	wantEncoded(t, []collate.Record{rec("t", "")}, []string{"\x01t\x00\xe4\xe3\xe7\x06"})
}

func TestEncodeNoRecords(t *testing.T) {
	wantEncoded(t, nil, nil)
	wantEncoded(t, []collate.Record{}, nil)
}

func TestEncodeEveryKind(t *testing.T) {
	for _, k := range someKeys {
		for _, v := range []string{"", "x", strings.Repeat("\xff", 99), strings.Repeat("\x00", 100)} {
			list := []collate.Record{rec(k, v), rec("t", "end")}
			wantEncoded(t, list, cut(write(list...)))
		}
	}
}

// The text ends at, ahead of and behind the end of a piece, of the first one and of later ones.
func TestEncodePieces(t *testing.T) {
	for size := 3; size <= 400; size++ {
		list := ofSize(size)
		blocks, e, at := collate.Encode(list)
		if e != collate.OK || at != 0 || len(blocks) != (size+59)/60 {
			t.Fatalf("P3: %d bytes: %d blocks, %d, %d", size, len(blocks), e, at)
		}
		for i, b := range blocks {
			if want := min(60, size-60*i) + 4; len(b) != want {
				t.Errorf("P3: %d bytes: block %d has %d bytes, want %d", size, i, len(b), want)
			}
		}
		wantEncoded(t, list, cut(write(list...)))
	}
}

func TestEncodeKeepsOrderAndCopies(t *testing.T) {
	list := []collate.Record{rec("tb", "1"), rec("ta", "2"), rec("tb", "1"), rec(numberKey(3), "")}
	wantEncoded(t, list, cut(write(list...)))
}

func TestEncodeRefusesNoKeys(t *testing.T) {
	for _, k := range noKeys {
		wantRefused(t, []collate.Record{rec(k, "")}, collate.ErrKey, 0)
		wantRefused(t, []collate.Record{rec("t", ""), rec("t", ""), rec(k, ""), rec("", "")}, collate.ErrKey, 2)
	}
}

func TestEncodeRefusesLongValues(t *testing.T) {
	for _, size := range []int{101, 102, 127, 128, 200, 256, 1 << 20} {
		long := strings.Repeat("v", size)
		wantRefused(t, []collate.Record{rec("t", long)}, collate.ErrValue, 0)
		wantRefused(t, []collate.Record{rec("t", long[:100]), rec("t", ""), rec("t", long), rec("t", long)}, collate.ErrValue, 2)
	}
}

func TestEncodeWhereBothErrorsApply(t *testing.T) {
	long := strings.Repeat("v", 101)
	wantRefused(t, []collate.Record{rec("?", long)}, collate.ErrKey, 0)
	wantRefused(t, []collate.Record{rec("t", long), rec("t", ""), rec("?", "")}, collate.ErrKey, 2)
	wantRefused(t, []collate.Record{rec("t", ""), rec("?", ""), rec("t", long), rec("?", "")}, collate.ErrKey, 1)
	wantRefused(t, []collate.Record{rec("t", long), rec("", long)}, collate.ErrKey, 1)
}

func TestEncodeLeavesItsArgument(t *testing.T) {
	r := rand.New(rand.NewSource(3))
	for range 100 {
		list := randomRecords(r, 20)
		before := slices.Clone(list)
		first, _, _ := collate.Encode(list)
		if !slices.Equal(list, before) {
			t.Fatalf("P1: Encode changed its argument")
		}
		wantNoSharing(t, "P1", fields(list), first)
		want := slices.Clone(first)
		clear(first)
		wantEncoded(t, list, want)
	}
}

// A list with room behind its end: what stands there is the caller's.
func TestEncodeLeavesWhatStandsBehind(t *testing.T) {
	whole := []collate.Record{rec("ta", "1"), rec("tb", "2"), rec("?", "mine")}
	wantEncoded(t, whole[:2], cut(write(whole[:2]...)))
	if whole[2] != rec("?", "mine") {
		t.Errorf("P1: Encode wrote behind its argument: %v", whole)
	}
}
