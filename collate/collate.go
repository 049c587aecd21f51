// Package collate puts large files in order, on a disk that is not to be trusted: see DOC.md.
package collate

import (
	"slices"
	"strings"

	"collate/disk"
)

// Errno is what a call answers: OK or the reason for a refusal.
type Errno int

const (
	OK       Errno = 0
	ErrKey   Errno = 1 // no key
	ErrValue Errno = 2 // a value that is too long
	ErrSum   Errno = 3 // a sum that is another one
	ErrData  Errno = 4 // no file of records
	ErrHold  Errno = 5 // too few blocks may be held
	ErrDisk  Errno = 6 // the disk did not do it
	ErrFull  Errno = 7 // the disk is full
)

// Record is a key and a value.
type Record struct{ Key, Value string }

// Order tells which of two keys comes first (P2).
func Order(a string, b string) int {
	x, isKeyA := readKey(a)
	y, isKeyB := readKey(b)
	switch {
	case isKeyA && isKeyB:
		return compareKeys(x, y)
	case isKeyA:
		return -1
	case isKeyB:
		return 1
	}
	return strings.Compare(a, b)
}

// Encode answers the blocks of a file of records (P3).
func Encode(list []Record) ([]string, Errno, int) {
	// All keys are looked at ahead of the first value: where both errors apply, ErrKey is the answer, wherever it stands.
	if i := slices.IndexFunc(list, hasNoKey); i >= 0 {
		return nil, ErrKey, i
	}
	if i := slices.IndexFunc(list, hasLongValue); i >= 0 {
		return nil, ErrValue, i
	}
	var content []byte
	for _, r := range list {
		content = appendRecord(content, r)
	}
	return sealAll(content), OK, 0
}

// Decode answers the records of a file's blocks (P4).
func Decode(blocks []string) ([]Record, Errno, int) {
	var pieces []string
	for i, block := range blocks {
		piece, ok := unseal(block)
		if !ok {
			return nil, ErrSum, i
		}
		pieces = append(pieces, piece)
	}
	list, ok := readRecords(pieces)
	if !ok {
		return nil, ErrData, len(blocks)
	}
	return list, OK, 0
}

// Sort puts a file's records in order, into a new file; it answers that (P5).
func Sort(d *disk.Disk, in int, once bool) (out int, e Errno) {
	if d.May() < leastHeld {
		return 0, ErrHold
	}
	s := sorter{store: store{disk: d, open: map[int]int{}}, once: once}
	defer func() {
		e = reasonOf(recover())
		s.takeAway()
	}()
	out = s.sort(in)
	s.handOver(out)
	return out, OK
}
