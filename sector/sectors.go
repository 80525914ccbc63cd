package sector

import "slices"

const sectorSize = 64

// The fates that a sector may have in a crash.
const (
	lost = iota
	kept
	torn
	fateCount
)

// sectors are those of a file.
type sectors struct {
	sure    []Sector       // all of them, by their places: of a new one nothing
	written map[int]Sector // by their places those written since all was sure
}

// filled answers the sector b, with zeros behind it.
func filled(b string) Sector {
	var room [sectorSize]byte
	copy(room[:], b)
	return Sector{B: string(room[:])}
}

func (s *sectors) count() int {
	return len(s.sure)
}

func (s *sectors) write(at int, x Sector) {
	if at == len(s.sure) {
		s.sure = append(s.sure, Sector{})
	}
	if s.written == nil {
		s.written = map[int]Sector{}
	}
	s.written[at] = x
}

// last answers the sectors as they were written last.
func (s *sectors) last() []Sector {
	l := slices.Clone(s.sure)
	for at, x := range s.written {
		l[at] = x
	}
	return l
}

func (s *sectors) sync() {
	for at, x := range s.written {
		s.sure[at] = x
	}
	s.written = nil
}

// crash gives each sector that is not sure one of the fates, makes all sure that
// is left, and answers the fates that are left.
func (s *sectors) crash(fates []int) []int {
	for at := range s.sure {
		x, ok := s.written[at]
		if !ok {
			continue
		}
		fate := lost
		if len(fates) > 0 {
			fate, fates = fateOf(fates[0]), fates[1:]
		}
		switch fate {
		case kept:
			s.sure[at] = x
		case torn:
			s.sure[at] = Sector{Bad: true}
		}
	}
	s.written = nil
	s.trim()
	return fates
}

// fateOf answers n modulo the count of fates, which is not below 0 even if n is.
func fateOf(n int) int {
	return (n%fateCount + fateCount) % fateCount
}

// trim ends the file behind its last sector of which there is something, and
// makes those ahead of it zeros of which there is nothing.
func (s *sectors) trim() {
	nothing := Sector{}
	for len(s.sure) > 0 && s.sure[len(s.sure)-1] == nothing {
		s.sure = s.sure[:len(s.sure)-1]
	}
	for at, x := range s.sure {
		if x == nothing {
			s.sure[at] = filled("")
		}
	}
}
