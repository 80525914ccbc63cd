package journal

import (
	"iter"
	"strings"

	"weighhouse/sector"
	"weighhouse/wire"
)

const (
	sectorSize = 64
	headSize   = 21 // epoch, number, index, count, and how many bytes there are
	partSize   = sectorSize - headSize
	maxParts   = 4096
	maxStamp   = 1 << 62
)

// stamp is what all parts of a record have alike.
type stamp struct {
	epoch, number, count int
}

// part is what a sector has of a record: bytes, and which part it is, from 0 on.
type part struct {
	stamp
	index int
	bytes string
}

// parts goes through sectors: what each of them has, and whether that is a part.
func parts(l []sector.Sector) iter.Seq2[part, bool] {
	return func(yield func(part, bool) bool) {
		for _, s := range l {
			if !yield(partOf(s)) {
				return
			}
		}
	}
}

// partOf answers the part that s is, if there is a record that has it.
func partOf(s sector.Sector) (part, bool) {
	if s.Bad || len(s.B) != sectorSize {
		return part{}, false
	}
	head, body := s.B[:headSize], s.B[headSize:]
	r := wire.NewReader([]byte(head))
	var p part
	p.epoch, p.number = r.Int(), r.Int()
	p.index, p.count = short(r), short(r)
	size := r.Byte()
	if size > partSize || strings.Trim(body[size:], "\x00") != "" {
		return part{}, false
	}
	p.bytes = body[:size]
	return p, p.mayBe()
}

// sector answers the bytes of p's sector.
func (p part) sector() string {
	w := wire.NewWriter()
	w.Int(p.epoch, p.number)
	w.Byte(p.index>>8, p.index&255, p.count>>8, p.count&255, len(p.bytes))
	return string(w.Bytes()) + p.bytes + strings.Repeat("\x00", partSize-len(p.bytes))
}

// mayBe tells whether there is a record that has p: bytes are split in one way only,
// so each part but the last one is full, and only the part of no bytes is empty.
func (p part) mayBe() bool {
	switch {
	case !isStamp(p.epoch), !isStamp(p.number), p.count > maxParts, p.index >= p.count:
		return false
	case !p.isLast():
		return len(p.bytes) == partSize
	}
	return len(p.bytes) > 0 || p.index == 0
}

// follows tells whether p is what stands behind the part ahead: the next one of its
// record, or the first one of the next record.
func (p part) follows(ahead part) bool {
	if ahead.isLast() {
		return p.index == 0 && p.number == ahead.number+1 && p.epoch >= ahead.epoch
	}
	return p.index == ahead.index+1 && p.stamp == ahead.stamp
}

func (p part) isLast() bool {
	return p.index == p.count-1
}

// isStamp tells whether n may be an epoch or a number.
func isStamp(n int) bool {
	return n >= 1 && n <= maxStamp
}

// short reads a number of two bytes, the higher one first.
func short(r *wire.Reader) int {
	return r.Byte()<<8 | r.Byte()
}
