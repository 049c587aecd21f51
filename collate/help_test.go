package collate_test

import (
	"math"
	"math/rand"
	"strings"
	"testing"
	"unsafe"

	"collate/collate"
)

// rec writes a record shorter than its literal.
func rec(key string, value string) collate.Record { return collate.Record{Key: key, Value: value} }

func word(n uint64) string {
	var b []byte
	for shift := 56; shift >= 0; shift -= 8 {
		b = append(b, byte(n>>shift))
	}
	return string(b)
}

func numberKey(n int64) string { return "n" + word(uint64(n)) }

func pointKey(re float64, im float64) string {
	return "p" + word(math.Float64bits(re)) + word(math.Float64bits(im))
}

// seal writes a piece's sum behind it, by the words of the document, apart from the program's own way.
func seal(piece string) string {
	sum := uint64(1)
	for _, b := range []byte(piece) {
		sum = (sum * 16777619) % (1 << 32)
		sum = sum ^ uint64(b)
	}
	return piece + word(sum)[4:]
}

func sealEach(pieces ...string) []string {
	var blocks []string
	for _, p := range pieces {
		blocks = append(blocks, seal(p))
	}
	return blocks
}

// cut cuts a text into the blocks of a file.
func cut(content string) []string {
	var blocks []string
	for len(content) > 60 {
		blocks = append(blocks, seal(content[:60]))
		content = content[60:]
	}
	if content != "" {
		blocks = append(blocks, seal(content))
	}
	return blocks
}

// write answers the text of records, however long their parts are below 128.
func write(list ...collate.Record) string {
	var b strings.Builder
	for _, r := range list {
		b.WriteByte(byte(len(r.Key)))
		b.WriteString(r.Key)
		b.WriteByte(byte(len(r.Value)))
		b.WriteString(r.Value)
	}
	return b.String()
}

// ofSize answers records whose text has so many bytes (3 or more).
func ofSize(size int) []collate.Record {
	var list []collate.Record
	for size > 103 {
		list = append(list, rec("t", strings.Repeat("v", 47)))
		size -= 50
	}
	return append(list, rec("t", strings.Repeat("w", size-3)))
}

var noKeys = []string{
	"", "\x00", "N", "a", "n", "n1234567", "n123456789", "p", "p12345678", "p123456789abcdef",
	"p123456789abcdefgh", "t" + strings.Repeat("a", 40), "t" + strings.Repeat("a", 1000),
	"x", "x12345678", "\xff", "n" + strings.Repeat("\x00", 100), "p" + strings.Repeat("\xff", 40),
}

var someKeys = []string{
	numberKey(math.MinInt64), numberKey(-1), numberKey(0), numberKey(7), numberKey(math.MaxInt64),
	pointKey(math.NaN(), 1), pointKey(-1, 2), pointKey(0, 0), pointKey(math.Copysign(0, -1), 0), pointKey(math.Inf(1), math.Inf(-1)),
	"t", "t\x00", "tab", "t" + strings.Repeat("\xff", 39),
}

func randomBytes(r *rand.Rand, most int) string {
	b := make([]byte, r.Intn(most+1))
	for i := range b {
		b[i] = byte(r.Intn(256))
	}
	return string(b)
}

func randomRecords(r *rand.Rand, most int) []collate.Record {
	var list []collate.Record
	for range r.Intn(most + 1) {
		key := someKeys[r.Intn(len(someKeys))]
		if r.Intn(2) == 0 {
			key = "t" + randomBytes(r, 39)
		}
		list = append(list, rec(key, randomBytes(r, 100)))
	}
	return list
}

// shareMemory tells whether two strings have a byte of memory in common.
func shareMemory(a string, b string) bool {
	if a == "" || b == "" {
		return false
	}
	x, y := uintptr(unsafe.Pointer(unsafe.StringData(a))), uintptr(unsafe.Pointer(unsafe.StringData(b)))
	return x < y+uintptr(len(b)) && y < x+uintptr(len(a))
}

// fields answers all strings of records.
func fields(list []collate.Record) []string {
	var out []string
	for _, r := range list {
		out = append(out, r.Key, r.Value)
	}
	return out
}

func wantNoSharing(t *testing.T, promise string, given []string, answered []string) {
	t.Helper()
	for _, g := range given {
		for _, a := range answered {
			if shareMemory(g, a) {
				t.Fatalf("%s: the answer %q shares memory with the argument %q", promise, a, g)
			}
		}
	}
}

// wantEach: each of these answers was told so many times at least, else a test that goes through many cases says little.
func wantEach(t *testing.T, told map[collate.Errno]int, least int, answers ...collate.Errno) {
	t.Helper()
	for _, e := range answers {
		if told[e] < least {
			t.Errorf("only %d cases with the answer %d", told[e], e)
		}
	}
}
