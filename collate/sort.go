package collate

import "slices"

// leastHeld is how many blocks Sort must be free to hold: one of each of two runs that are merged, and one that stands for what is being written.
const leastHeld = 3

// sorter puts the records of one file in order.
type sorter struct {
	store
	once bool
}

func (s *sorter) sort(in int) int {
	blocks := s.length(in)
	// What is wrong with the file goes ahead of what is wrong with the disk, so all of it is looked at ahead of the first block that is written.
	for range entries(s.pieces(in, blocks)) {
	}
	return s.mergeAll(s.makeRuns(in, blocks))
}

// mergeAll makes one run of all. Runs that are merged are neighbours, so that of records that stand together those of an earlier run came first, at each step.
func (s *sorter) mergeAll(runs []int) int {
	for len(runs) > 1 {
		var merged []int
		for group := range slices.Chunk(runs, s.disk.May()-1) {
			merged = append(merged, s.merge(group))
		}
		runs = merged
	}
	return runs[0]
}

// merge makes one run of a group of them, and takes these away.
func (s *sorter) merge(group []int) int {
	if len(group) == 1 {
		return group[0]
	}
	w := s.newWriter(s.once)
	for e := range s.inOrder(group) {
		w.write(e)
	}
	w.end()
	for _, run := range group {
		s.remove(run)
	}
	return w.file
}
