package collate

import (
	"iter"
	"maps"
	"slices"

	"collate/disk"
)

// store is a disk, and the files that were made on it here. What its disk does not do ends in a panic with the Errno that tells why, so that whatever is held and open on the way up is given back by defer.
type store struct {
	disk *disk.Disk
	open map[int]int // the files that were not taken away yet, and how many blocks each one has
}

// wantDone panics if the disk did not do what it was asked.
func wantDone(e disk.Errno) {
	switch e {
	case disk.OK:
	case disk.ErrFull:
		panic(ErrFull)
	default:
		panic(ErrDisk)
	}
}

// reasonOf answers the Errno that a call ended with, by what was recovered.
func reasonOf(recovered any) Errno {
	switch p := recovered.(type) {
	case nil:
		return OK
	case Errno:
		return p
	}
	return ErrDisk
}

func (s *store) create() int {
	f, e := s.disk.Create()
	wantDone(e)
	s.open[f] = 0
	return f
}

func (s *store) lay(f int, block string) {
	wantDone(s.disk.Append(f, block))
	s.open[f]++
}

func (s *store) length(f int) int {
	n, e := s.disk.Len(f)
	wantDone(e)
	return n
}

func (s *store) remove(f int) {
	wantDone(s.disk.Delete(f))
	delete(s.open, f)
}

// handOver leaves a file on the disk for good.
func (s *store) handOver(f int) { delete(s.open, f) }

// takeAway deletes all files that are still open, in the order of their numbers: if one cannot be deleted, which one that is must not hang on the order of a map. The disk's answers are passed over: files are still open only where there is an error already, and none is named behind ErrDisk.
func (s *store) takeAway() {
	for _, f := range slices.Sorted(maps.Keys(s.open)) {
		s.disk.Delete(f)
		delete(s.open, f)
	}
}

// pieces gives what is in the first blocks of a file, each one held while its piece is looked at; it panics with ErrSum at a block that is no piece with its sum.
func (s *store) pieces(f int, blocks int) iter.Seq[string] {
	return func(yield func(string) bool) {
		for i := range blocks {
			if !s.givePiece(f, i, yield) {
				return
			}
		}
	}
}

func (s *store) givePiece(f int, i int, yield func(string) bool) bool {
	block, e := s.disk.Read(f, i)
	wantDone(e)
	defer block.Release()
	piece, ok := unseal(block.Data())
	if !ok {
		panic(ErrSum)
	}
	return yield(piece)
}

// writer writes records into a file of its own.
type writer struct {
	*store
	file int
	once bool   // of records whose keys stand together the first one alone is written
	last key    // that of the newest record; nil: there is none
	rest []byte // what is not yet enough for a block
}

func (s *store) newWriter(once bool) *writer {
	return &writer{store: s, file: s.create(), once: once}
}

// write writes a record, which must not stand ahead of the newest one.
func (w *writer) write(e entry) {
	if w.once && w.last != nil && compareKeys(w.last, e.place) == 0 {
		return
	}
	w.last = e.place
	w.rest = appendRecord(w.rest, e.Record)
	full := len(w.rest) - len(w.rest)%pieceSize
	w.layAll(w.rest[:full])
	w.rest = w.rest[full:]
}

// end writes what is left; the file is whole then.
func (w *writer) end() { w.layAll(w.rest) }

func (w *writer) layAll(content []byte) {
	for _, block := range sealAll(content) {
		w.lay(w.file, block)
	}
}
