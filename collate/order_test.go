package collate_test

import (
	"math"
	"math/rand"
	"strings"
	"testing"

	"collate/collate"
)

func TestErrorNumbers(t *testing.T) {
	for i, e := range []collate.Errno{collate.OK, collate.ErrKey, collate.ErrValue, collate.ErrSum, collate.ErrData, collate.ErrHold, collate.ErrDisk, collate.ErrFull} {
		if int(e) != i {
			t.Errorf("the error that is number %d has the number %d", i, e)
		}
	}
}

func wantOrder(t *testing.T, a string, b string, want int) {
	t.Helper()
	if got := collate.Order(a, b); got != want {
		t.Errorf("P2: Order(%q, %q) = %d, want %d", a, b, got, want)
	}
	if got := collate.Order(b, a); got != -want {
		t.Errorf("P2: Order(%q, %q) = %d, want %d", b, a, got, -want)
	}
}

// wantRising: strings of one row stand together, those of a later row behind them.
func wantRising(t *testing.T, rows [][]string) {
	t.Helper()
	for i, row := range rows {
		for _, a := range row {
			for _, b := range row {
				wantOrder(t, a, b, 0)
			}
			for _, later := range rows[i+1:] {
				for _, b := range later {
					wantOrder(t, a, b, -1)
				}
			}
		}
	}
}

func TestOrderOfNumbers(t *testing.T) {
	var rows [][]string
	for _, n := range []int64{math.MinInt64, math.MinInt64 + 1, -1 << 32, -257, -256, -255, -2, -1, 0, 1, 2, 127, 128, 255, 256, 1 << 31, 1 << 32, math.MaxInt64 - 1, math.MaxInt64} {
		rows = append(rows, []string{numberKey(n)})
	}
	wantRising(t, rows)
}

func TestOrderOfPoints(t *testing.T) {
	minus0 := math.Copysign(0, -1)
	quiet, signalling, negative := math.NaN(), math.Float64frombits(0x7ff0000000000001), math.Float64frombits(0xffffffffffffffff)
	classes := [][]float64{
		{quiet, signalling, negative},
		{math.Inf(-1)}, {-math.MaxFloat64}, {-1.5}, {-1}, {-math.SmallestNonzeroFloat64},
		{0, minus0},
		{math.SmallestNonzeroFloat64}, {1}, {1.5}, {math.MaxFloat64}, {math.Inf(1)},
	}
	var rows [][]string
	for _, reals := range classes {
		for _, imags := range classes {
			var row []string
			for _, re := range reals {
				for _, im := range imags {
					row = append(row, pointKey(re, im))
				}
			}
			rows = append(rows, row)
		}
	}
	wantRising(t, rows)
}

func TestOrderOfTexts(t *testing.T) {
	full := strings.Repeat("m", 38)
	wantRising(t, [][]string{{"t"}, {"t\x00"}, {"t\x00\x00"}, {"t\x01"}, {"tA"}, {"ta"}, {"ta\x00"}, {"taa"}, {"tab"}, {"tb"}, {"t" + full}, {"t" + full + "a"}, {"t" + full + "b"}, {"t\x7f"}, {"t\x80"}, {"t\xc3\xa9"}, {"t\xff"}, {"t\xff\xff"}})
}

func TestOrderOfKinds(t *testing.T) {
	wantRising(t, [][]string{
		{numberKey(math.MinInt64)}, {numberKey(math.MaxInt64)},
		{pointKey(math.NaN(), math.NaN())}, {pointKey(math.Inf(1), math.Inf(1))},
		{"t"}, {"t" + strings.Repeat("\xff", 39)},
		{""}, {"\x00"},
	})
}

func TestOrderOfWhatIsNoKey(t *testing.T) {
	for _, a := range noKeys {
		for _, k := range someKeys {
			wantOrder(t, k, a, -1)
		}
		for _, b := range noKeys {
			wantOrder(t, a, b, strings.Compare(a, b))
		}
	}
}

// Keys of every length that is a key's or is none, by each letter.
func TestOrderTellsKeysByLength(t *testing.T) {
	const last = "\xff\xff\xff" // no key, and behind all that begins by a letter
	for _, letter := range []string{"n", "p", "t", "q"} {
		for size := range 200 {
			s := letter + strings.Repeat("z", size)
			isKey := letter == "n" && size == 8 || letter == "p" && size == 16 || letter == "t" && size <= 39
			want := 1
			if isKey {
				want = -1
			}
			// The empty string is no key, and the first of these.
			wantOrder(t, s, "", want)
			wantOrder(t, s, last, -1)
		}
	}
}

func TestOrderIsAnOrder(t *testing.T) {
	r := rand.New(rand.NewSource(2))
	all := append(append([]string{}, noKeys...), someKeys...)
	for range 40 {
		all = append(all, randomBytes(r, 50), "n"+word(r.Uint64()), "p"+word(r.Uint64())+word(r.Uint64()))
	}
	for _, a := range all {
		for _, b := range all {
			ab := collate.Order(a, b)
			if ab < -1 || ab > 1 || ab != -collate.Order(b, a) {
				t.Fatalf("P2: Order(%q, %q) = %d, and %d the other way", a, b, ab, collate.Order(b, a))
			}
			for _, c := range all {
				if ab <= 0 && collate.Order(b, c) <= 0 && collate.Order(a, c) > 0 {
					t.Fatalf("P2: %q, %q, %q: no order", a, b, c)
				}
			}
		}
	}
}

func TestOrderOfLongStrings(t *testing.T) {
	for _, letter := range []string{"n", "p", "t", "x"} {
		long := letter + strings.Repeat("a", 1<<20)
		wantOrder(t, "t", long, -1)
		wantOrder(t, long, long, 0)
		wantOrder(t, long, long+"a", -1)
	}
}
