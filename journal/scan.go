package journal

import (
	"weighhouse/api"
	"weighhouse/sector"
)

// Split answers the sectors of a record, of 64 bytes each.
func Split(epoch, number int, b []byte) ([]string, api.Errno) {
	if !isStamp(epoch) || !isStamp(number) {
		return nil, api.ErrArg
	}
	if len(b) > maxParts*partSize {
		return nil, api.ErrSize
	}
	count := max((len(b)+partSize-1)/partSize, 1)
	l := make([]string, count)
	for i := range l {
		first := i * partSize
		p := part{stamp{epoch, number, count}, i, string(b[first:min(first+partSize, len(b))])}
		l[i] = p.sector()
	}
	return l, api.OK
}

// Scan answers the records that sectors tell, how many sectors these have, and the
// greatest epoch of all parts, those behind these records, too.
func Scan(l []sector.Sector) (records [][]byte, end, epoch int) {
	for p, ok := range parts(l) {
		if ok {
			epoch = max(epoch, p.epoch)
		}
	}
	records, end = tell(l)
	return records, end, epoch
}

// tell answers the records that sectors tell, and how many sectors these have.
func tell(l []sector.Sector) (records [][]byte, end int) {
	var record []byte
	ahead := part{stamp: stamp{count: 1}} // a record of number 0 that all others are behind
telling:
	for p, ok := range parts(l) {
		switch {
		case !ok, !p.follows(ahead):
			break telling
		case p.index == 0:
			record = make([]byte, 0, p.count*partSize)
		}
		record = append(record, p.bytes...)
		if p.isLast() {
			records = append(records, record)
			end += p.count
		}
		ahead = p
	}
	return records, end
}
