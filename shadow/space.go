package shadow

// space tells which of a disk's sectors are free.
type space struct {
	taken []bool
	free  int
	from  int // below it none is free: most writes take the lowest of many sectors
}

// spaceOf is so many sectors, free but for the roots.
func spaceOf(sectors int) *space {
	s := &space{taken: make([]bool, sectors)}
	s.clear()
	return s
}

// clear makes all sectors free, but the roots.
func (s *space) clear() {
	clear(s.taken)
	for root := range roots {
		s.taken[root] = true
	}
	s.free, s.from = len(s.taken)-roots, roots
}

// claim takes a sector; false, if it is not there, or not free.
func (s *space) claim(sector int) bool {
	if sector < 0 || sector >= len(s.taken) || s.taken[sector] {
		return false
	}
	s.taken[sector] = true
	s.free--
	for s.from < len(s.taken) && s.taken[s.from] {
		s.from++
	}
	return true
}

// give makes a sector free that was taken.
func (s *space) give(sector int) {
	s.taken[sector] = false
	s.free++
	s.from = min(s.from, sector)
}

// lowest are so many free sectors, or all there are, those of the least numbers.
func (s *space) lowest(count int) []int {
	var sectors []int
	for i := s.from; i < len(s.taken) && len(sectors) < count; i++ {
		if !s.taken[i] {
			sectors = append(sectors, i)
		}
	}
	return sectors
}
