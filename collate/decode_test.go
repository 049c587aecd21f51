package collate_test

import (
	"math/rand"
	"slices"
	"strings"
	"testing"

	"collate/collate"
)

func wantDecoded(t *testing.T, blocks []string, want []collate.Record) {
	t.Helper()
	list, e, at := collate.Decode(blocks)
	if e != collate.OK || at != 0 {
		t.Errorf("P4: Decode(%.200q) answers %d, %d, want OK, 0", blocks, e, at)
	}
	if !slices.Equal(list, want) {
		t.Errorf("P4: Decode(%.200q) = %.200q, want %.200q", blocks, fields(list), fields(want))
	}
}

func wantUnread(t *testing.T, blocks []string, want collate.Errno, place int) {
	t.Helper()
	list, e, at := collate.Decode(blocks)
	if e != want || at != place || len(list) != 0 {
		t.Errorf("P4: Decode(%.200q) = %.200q, %d, %d, want none, %d, %d", blocks, fields(list), e, at, want, place)
	}
}

// noFile: the blocks' sums are right, and they are the file of no records.
func noFile(t *testing.T, pieces ...string) {
	t.Helper()
	wantUnread(t, sealEach(pieces...), collate.ErrData, len(pieces))
}

func turnBit(s string, bit int) string {
	b := []byte(s)
	b[bit/8] ^= 1 << (bit % 8)
	return string(b)
}

func TestDecodeNoBlocks(t *testing.T) {
	wantDecoded(t, nil, nil)
	wantDecoded(t, []string{}, nil)
}

func TestDecodeWhatEncodeWrote(t *testing.T) {
	for size := 3; size <= 400; size++ {
		list := ofSize(size)
		blocks, _, _ := collate.Encode(list)
		wantDecoded(t, blocks, list)
	}
	r := rand.New(rand.NewSource(4))
	for range 300 {
		list := randomRecords(r, 30)
		blocks, _, _ := collate.Encode(list)
		wantDecoded(t, blocks, list)
	}
}

func TestDecodeEveryKind(t *testing.T) {
	for _, k := range someKeys {
		for _, v := range []string{"", "x", strings.Repeat("\xff", 99), strings.Repeat("\x00", 100)} {
			list := []collate.Record{rec(k, v), rec("t", "end")}
			wantDecoded(t, cut(write(list...)), list)
		}
	}
}

// Every bit of a file, turned alone, is seen, and the block is told.
func TestDecodeSeesEveryBit(t *testing.T) {
	good := cut(write(ofSize(150)...))
	for i, block := range good {
		for bit := range 8 * len(block) {
			bad := slices.Clone(good)
			bad[i] = turnBit(block, bit)
			wantUnread(t, bad, collate.ErrSum, i)
		}
	}
}

func TestDecodeBlocksThatAreNoPieces(t *testing.T) {
	twelve := write(ofSize(60)...)
	short := []string{"", "\x00", "ab", "abc", "abcd", seal(""), seal("\x01t\x00")[1:], seal(twelve)[:63]}
	long := []string{seal(twelve + "\x01"), seal(twelve + "\x01t\x00"), seal(strings.Repeat(twelve, 50)), strings.Repeat("x", 1<<20)}
	for _, bad := range append(short, long...) {
		wantUnread(t, []string{bad}, collate.ErrSum, 0)
		wantUnread(t, []string{bad, bad}, collate.ErrSum, 0)
		wantUnread(t, append(sealEach(twelve, twelve), bad), collate.ErrSum, 2)
		wantUnread(t, []string{seal(twelve), bad, seal(twelve), bad}, collate.ErrSum, 1)
	}
}

// The sum's bytes, the lowest one first or ahead of the piece, are another sum.
func TestDecodeSumsLaidOtherwise(t *testing.T) {
	block := seal("\x01t\x00")
	piece, sum := block[:3], []byte(block[3:])
	wantUnread(t, []string{string(sum) + piece}, collate.ErrSum, 0)
	slices.Reverse(sum)
	wantUnread(t, []string{piece + string(sum)}, collate.ErrSum, 0)
}

func TestDecodePiecesOfOtherSizes(t *testing.T) {
	one := write(rec("ta", "x"))
	noFile(t, one, one)
	twelve := strings.Repeat(one, 12)
	for at := 1; at < 60; at++ {
		noFile(t, twelve[:at], twelve[at:])
	}
	noFile(t, twelve, one, one)
	noFile(t, twelve, one, twelve)
	noFile(t, one, twelve)
	noFile(t, twelve, twelve[:59], twelve[59:]+one)
}

// A text that is cut off anywhere but behind a record breaks off.
func TestDecodeBrokenOff(t *testing.T) {
	list := []collate.Record{rec("ta", "value"), rec(numberKey(1), ""), rec(pointKey(1, 2), strings.Repeat("v", 100)), rec("t"+strings.Repeat("k", 39), "x")}
	whole := write(list...)
	ends := map[int]int{0: 0} // how many records end there
	for i := range list {
		ends[len(write(list[:i+1]...))] = i + 1
	}
	for size := range len(whole) + 1 {
		blocks := cut(whole[:size])
		if n, ok := ends[size]; ok {
			wantDecoded(t, blocks, list[:n])
		} else {
			wantUnread(t, blocks, collate.ErrData, len(blocks))
		}
	}
}

func TestDecodeKeysThatAreNone(t *testing.T) {
	for _, k := range noKeys {
		if len(k) > 127 {
			continue
		}
		first := cut(write(rec(k, "x"), rec("t", "")))
		wantUnread(t, first, collate.ErrData, len(first))
		last := cut(write(rec("t", ""), rec(k, "")))
		wantUnread(t, last, collate.ErrData, len(last))
	}
}

func TestDecodeLongValues(t *testing.T) {
	for _, size := range []int{101, 102, 127} {
		blocks := cut(write(rec("t", strings.Repeat("v", size)), rec("t", "")))
		wantUnread(t, blocks, collate.ErrData, len(blocks))
	}
	// They are too long even where the text breaks off ahead of their end.
	noFile(t, "\x01t\x65vv")
}

// Lengths that are no single byte below 128, with as many bytes behind them as any way of reading them asks for.
func TestDecodeLengthsOfOtherForms(t *testing.T) {
	many := strings.Repeat("\x01t\x00", 200)
	for first := 128; first < 256; first++ {
		for _, head := range []string{string([]byte{byte(first)}), string([]byte{byte(first), 0}), "\x01t" + string([]byte{byte(first)}), "\x01t" + string([]byte{byte(first), 0})} {
			blocks := cut(head + many)
			wantUnread(t, blocks, collate.ErrData, len(blocks))
		}
	}
	noFile(t, "\x81\x00t\x00")
	noFile(t, "\x01t\x80\x00")
}

func TestDecodeWhereBothErrorsApply(t *testing.T) {
	one := write(rec("ta", "x"))
	wantUnread(t, append(sealEach(one, one), "?"), collate.ErrSum, 2)
	wantUnread(t, append(sealEach("\x00\x00", one), ""), collate.ErrSum, 2)
	wantUnread(t, []string{turnBit(seal("\x02t"), 0), seal(one)}, collate.ErrSum, 0)
	wantUnread(t, []string{seal(one[:2]), turnBit(seal(one), 71), "?"}, collate.ErrSum, 1)
}

// Whatever is in the blocks, the call ends; what it reads is what Encode writes as these very blocks.
func TestDecodeAnything(t *testing.T) {
	r := rand.New(rand.NewSource(5))
	read := 0
	for range 20000 {
		var blocks []string
		switch r.Intn(3) {
		case 0:
			for range r.Intn(4) {
				blocks = append(blocks, randomBytes(r, 70))
			}
		case 1:
			blocks = cut(randomBytes(r, 200))
		case 2:
			content := []byte(write(randomRecords(r, 4)...))
			for range min(len(content), r.Intn(3)) {
				content[r.Intn(len(content))] = byte(r.Intn(130))
			}
			blocks = cut(string(content))
		}
		list, e, at := collate.Decode(blocks)
		switch e {
		case collate.OK:
			read++
			again, e2, _ := collate.Encode(list)
			if at != 0 || e2 != collate.OK || !slices.Equal(again, blocks) {
				t.Fatalf("P4: Decode(%q) = %q, OK, %d, which Encode writes as %q, %d", blocks, fields(list), at, again, e2)
			}
		case collate.ErrSum:
			if at < 0 || at >= len(blocks) || len(list) != 0 {
				t.Fatalf("P4: Decode(%q) = %q, ErrSum, %d", blocks, fields(list), at)
			}
		case collate.ErrData:
			if at != len(blocks) || len(list) != 0 {
				t.Fatalf("P4: Decode(%q) = %q, ErrData, %d", blocks, fields(list), at)
			}
		default:
			t.Fatalf("P4: Decode(%q) answers %d", blocks, e)
		}
	}
	if read < 1000 {
		t.Errorf("only %d of the files were read", read)
	}
}

func TestDecodeLeavesItsArgument(t *testing.T) {
	r := rand.New(rand.NewSource(6))
	for range 100 {
		want := randomRecords(r, 20)
		blocks := cut(write(want...))
		before := slices.Clone(blocks)
		first, _, _ := collate.Decode(blocks)
		if !slices.Equal(blocks, before) {
			t.Fatalf("P1: Decode changed its argument")
		}
		wantNoSharing(t, "P1", blocks, fields(first))
		clear(first)
		wantDecoded(t, blocks, want)
	}
}

func TestDecodeLongLists(t *testing.T) {
	var list []collate.Record
	for i := range 50000 {
		list = append(list, rec(numberKey(int64(i)), strings.Repeat("v", i%101)))
	}
	blocks, e, at := collate.Encode(list)
	if e != collate.OK || at != 0 {
		t.Fatalf("P3: Encode of 50000 records answers %d, %d", e, at)
	}
	got, e, at := collate.Decode(blocks)
	if e != collate.OK || at != 0 || !slices.Equal(got, list) {
		t.Errorf("P4: Decode of 50000 records: %d records, %d, %d", len(got), e, at)
	}
}
