package journal_test

import (
	"encoding/binary"
	"fmt"
	"math/rand"
	"slices"
	"testing"

	"weighhouse/api"
	"weighhouse/journal"
	"weighhouse/sector"
)

// handEpoch answers the epoch of the part that s is, or 0: it is one, if the sector
// is written anew just so from what it says.
func handEpoch(s sector.Sector) int {
	if s.Bad || len(s.B) != 64 {
		return 0
	}
	epoch, number := int(binary.BigEndian.Uint64([]byte(s.B))), int(binary.BigEndian.Uint64([]byte(s.B[8:])))
	index, count := int(s.B[16])<<8+int(s.B[17]), int(s.B[18])<<8+int(s.B[19])
	size, full := int(s.B[20]), index < count-1
	switch {
	case epoch < 1, epoch > greatest, number < 1, number > greatest, count > 4096, index >= count, size > 43:
		return 0
	case full && size < 43, size == 0 && count > 1:
		return 0
	case hand(epoch, number, index, count, size, s.B[21:21+size]) != s.B:
		return 0
	}
	return epoch
}

// scanByHand answers what sectors tell by trying, one number behind the other,
// whether Split of what may be the record gives just these sectors.
func scanByHand(l []sector.Sector) (records []string, end, epoch int) {
	for _, s := range l {
		epoch = max(epoch, handEpoch(s))
	}
	least := 1
	for end < len(l) && len(l[end].B) == 64 {
		first := l[end].B
		count := int(first[18])<<8 + int(first[19])
		if count > len(l)-end {
			break
		}
		record := ""
		for _, s := range l[end : end+count] {
			if len(s.B) == 64 {
				record += s.B[21 : 21+min(43, int(s.B[20]))]
			}
		}
		at := int(binary.BigEndian.Uint64([]byte(first)))
		want, e := journal.Split(at, len(records)+1, []byte(record))
		if e != api.OK || at < least || !slices.Equal(row(want), l[end:end+count]) {
			break
		}
		records, end, least = append(records, record), end+count, at
	}
	return records, end, epoch
}

func wantScan(t *testing.T, what string, l []sector.Sector, records []string, end, epoch int) {
	t.Helper()
	got, n, e := journal.Scan(l)
	if !slices.Equal(texts(got), records) || n != end || e != epoch {
		t.Errorf("%s: Scan tells %s end %d, epoch %d, want %s end %d, epoch %d", what, short(texts(got)), n, e, short(records), end, epoch)
	}
}

func TestP1602ScanNothing(t *testing.T) {
	wantScan(t, "nil", nil, nil, 0, 0)
	wantScan(t, "empty", []sector.Sector{}, nil, 0, 0)
	wantScan(t, "zero ones", make([]sector.Sector, 5), nil, 0, 0)
	wantScan(t, "zeros", row(make([]string, 3), []string{string(make([]byte, 64))}), nil, 0, 0)
	wantScan(t, "bad ones", []sector.Sector{{Bad: true}, {Bad: true}}, nil, 0, 0)
}

// TestP1602There: what is split is told again, alone and in rows.
func TestP1602There(t *testing.T) {
	var all []sector.Sector
	var told []string
	for i, n := range lengths {
		b := long(n)
		one, e := journal.Split(5, 1, []byte(b))
		wantErr(t, "Split", e, api.OK)
		wantScan(t, fmt.Sprint(n, " bytes"), row(one), []string{b}, len(one), 5)
		l, e := journal.Split(5+i/3, i+1, []byte(b))
		wantErr(t, "Split", e, api.OK)
		all, told = append(all, row(l)...), append(told, b)
		wantScan(t, fmt.Sprint(i, " records"), all, told, len(all), 5+i/3)
	}
}

// TestP1602Short: of a record of which parts at the end are lacking nothing is told.
func TestP1602Short(t *testing.T) {
	a, b, c := byHand(1, 1, "a"), byHand(2, 2, long(43*5+1)), byHand(3, 3, "c")
	all := row(a, b, c)
	for n := range len(all) + 1 {
		switch {
		case n == 0:
			wantScan(t, "none", all[:n], nil, 0, 0)
		case n == 1:
			wantScan(t, "the first", all[:n], []string{"a"}, 1, 1)
		case n < 7:
			wantScan(t, fmt.Sprint(n, " sectors"), all[:n], []string{"a"}, 1, 2)
		case n == 7:
			wantScan(t, "two records", all[:n], []string{"a", long(216)}, 7, 2)
		default:
			wantScan(t, "all", all[:n], []string{"a", long(216), "c"}, 8, 3)
		}
	}
	// Any one that is lacking, doubled, or another one's place.
	for i := range 6 {
		less := slices.Delete(slices.Clone(all), 1+i, 2+i)
		wantScan(t, fmt.Sprint("lacking ", i), less, []string{"a"}, 1, 3)
		more := slices.Insert(slices.Clone(all), 1+i, all[1+i])
		if i < 5 {
			wantScan(t, fmt.Sprint("doubled ", i), more, []string{"a"}, 1, 3)
		} else {
			wantScan(t, "the last one doubled", more, []string{"a", long(216)}, 7, 3)
		}
		for k := range i {
			turned := slices.Clone(all)
			turned[1+i], turned[1+k] = turned[1+k], turned[1+i]
			wantScan(t, fmt.Sprint("turned round ", i, k), turned, []string{"a"}, 1, 3)
		}
	}
}

func TestP1602ScanNumbers(t *testing.T) {
	one, two, three := byHand(1, 1, "a"), byHand(1, 2, "b"), byHand(1, 3, "c")
	wantScan(t, "from 2 on", row(two, three), nil, 0, 1)
	wantScan(t, "1 behind", row(two, one), nil, 0, 1)
	wantScan(t, "a gap", row(one, three), []string{"a"}, 1, 1)
	wantScan(t, "1 again", row(one, one, two), []string{"a"}, 1, 1)
	wantScan(t, "back", row(one, two, one), []string{"a", "b"}, 2, 1)
	wantScan(t, "2 again", row(one, two, two, three), []string{"a", "b"}, 2, 1)
	wantScan(t, "all", row(one, two, three), []string{"a", "b", "c"}, 3, 1)
	for _, n := range []int{0, -1, -1 << 63, greatest, greatest + 1, 1<<63 - 1} {
		epoch := 1
		if n != greatest {
			epoch = 0
		}
		wantScan(t, fmt.Sprint("number ", n), row(byHand(1, n, "a")), nil, 0, epoch)
		wantScan(t, fmt.Sprint("number ", n, " behind"), row(one, byHand(1, n, "b"), two), []string{"a"}, 1, 1)
	}
}

func TestP1602ScanEpochs(t *testing.T) {
	at := func(epoch, number int) []string { return byHand(epoch, number, "x") }
	for _, x := range []struct {
		epochs []int
		end    int
		epoch  int
	}{
		{[]int{1, 1, 1}, 3, 1},
		{[]int{1, 2, 3}, 3, 3},
		{[]int{4, 4, 9}, 3, 9},
		{[]int{2, 1, 1}, 1, 2},
		{[]int{2, 2, 1}, 2, 2},
		{[]int{1, 3, 2, 3}, 2, 3},
		{[]int{1, greatest, greatest}, 3, greatest},
		{[]int{greatest, greatest - 1, greatest}, 1, greatest},
		{[]int{1, greatest + 1, 2}, 1, 2},
		{[]int{greatest + 1, greatest + 1}, 0, 0},
		{[]int{1, 1<<63 - 1}, 1, 1},
		{[]int{0, 1}, 0, 1},
		{[]int{-1, -1}, 0, 0},
		{[]int{-1 << 63, 5}, 0, 5},
		{[]int{3, 0, 4}, 1, 4},
	} {
		var l []sector.Sector
		for i, epoch := range x.epochs {
			l = append(l, row(at(epoch, i+1))...)
		}
		wantScan(t, fmt.Sprint(x.epochs), l, slices.Repeat([]string{"x"}, x.end), x.end, x.epoch)
	}
}

// TestP1602Behind: parts behind the end are told of by the greatest epoch alone;
// sectors that are none are not.
func TestP1602Behind(t *testing.T) {
	a := byHand(2, 1, "a")
	for _, x := range []struct {
		what  string
		l     []sector.Sector
		epoch int
	}{
		{"a part of a later record", row(byHand(9, 7, "x")), 9},
		{"the middle of a record", row(byHand(9, 2, long(200))[2:4]), 9},
		{"the end of a record", row(byHand(9, 2, long(200))[4:]), 9},
		{"behind a bad one", append([]sector.Sector{{Bad: true}}, row(byHand(9, 2, "x"))...), 9},
		{"behind zeros", append(row([]string{string(make([]byte, 64))}), row(byHand(9, 3, "x"))...), 9},
		{"a lesser one", row(byHand(1, 2, "x")), 2},
		{"the greatest of several", row(byHand(1, 2, "x"), byHand(5, 3, "x"), byHand(8, 4, "x"), byHand(3, 5, "x")), 8},
		{"a bad one with bytes", []sector.Sector{{B: byHand(9, 2, "x")[0], Bad: true}}, 2},
		{"not full", row([]string{hand(9, 2, 0, 2, 42, long(42))}), 2},
		{"a record of 4097 parts", row([]string{hand(9, 2, 0, 4097, 43, long(43))}), 2},
		{"a part of 4096", row([]string{hand(9, 2, 4095, 4096, 1, "x")}), 9},
		{"of no parts", row([]string{hand(9, 2, 0, 0, 1, "x")}), 2},
		{"past the last part", row([]string{hand(9, 2, 2, 2, 1, "x")}), 2},
		{"past the last part, and full", row([]string{hand(9, 2, 2, 2, 43, long(43))}), 2},
		{"of no parts, and full", row([]string{hand(9, 2, 0, 0, 43, long(43))}), 2},
		{"bytes behind the bytes", row([]string{hand(9, 2, 0, 1, 1, "xy")}), 2},
		{"more bytes than there are", row([]string{hand(9, 2, 0, 1, 44, long(43))}), 2},
		{"a last part of nothing", row([]string{hand(9, 2, 1, 2, 0, "")}), 2},
	} {
		wantScan(t, x.what, append(row(a), x.l...), []string{"a"}, 1, x.epoch)
		alone := x.epoch
		switch {
		case x.what == "a lesser one":
			alone = 1
		case x.epoch == 2:
			alone = 0
		}
		wantScan(t, x.what+", alone", x.l, nil, 0, alone)
	}
}

// TestP1602Parts: sectors that are not just so, in the midst of a record that else
// would be told.
func TestP1602Parts(t *testing.T) {
	a, b, c := byHand(1, 1, "a"), byHand(4, 2, long(100)), byHand(4, 3, "c")
	x, y, z := long(100)[:43], long(100)[43:86], long(100)[86:]
	for what, l := range map[string][]string{
		"another epoch in the first part":     {hand(3, 2, 0, 3, 43, x), b[1], b[2]},
		"another epoch in the second part":    {b[0], hand(3, 2, 1, 3, 43, y), b[2]},
		"a greater epoch in the second part":  {b[0], hand(5, 2, 1, 3, 43, y), b[2]},
		"another epoch in the last part":      {b[0], b[1], hand(3, 2, 2, 3, 14, z)},
		"another number in the first part":    {hand(4, 3, 0, 3, 43, x), b[1], b[2]},
		"another number in the second part":   {b[0], hand(4, 3, 1, 3, 43, y), b[2]},
		"another number in the last part":     {b[0], b[1], hand(4, 1, 2, 3, 14, z)},
		"another count in the first part":     {hand(4, 2, 0, 4, 43, x), b[1], b[2]},
		"another count in the second part":    {b[0], hand(4, 2, 1, 4, 43, y), b[2]},
		"another count in the last part":      {b[0], b[1], hand(4, 2, 2, 4, 43, long(43))},
		"a count of 259":                      {hand(4, 2, 0, 259, 43, x), hand(4, 2, 1, 259, 43, y), hand(4, 2, 2, 259, 43, x)},
		"parts from 1 on":                     {hand(4, 2, 1, 4, 43, x), hand(4, 2, 2, 4, 43, y), hand(4, 2, 3, 4, 14, z)},
		"part 256 for part 1":                 {b[0], hand(4, 2, 256, 3, 43, y), b[2]},
		"two parts of one number":             {b[0], hand(4, 2, 0, 3, 43, y), b[2]},
		"parts turned round":                  {b[1], b[0], b[2]},
		"a first part that is not full":       {hand(4, 2, 0, 3, 42, x[:42]), b[1], b[2]},
		"a second part that is not full":      {b[0], hand(4, 2, 1, 3, 42, y[:42]), b[2]},
		"a second part of nothing":            {b[0], hand(4, 2, 1, 3, 0, ""), b[2]},
		"a last part of nothing":              {b[0], b[1], hand(4, 2, 2, 3, 0, "")},
		"a last part with bytes behind":       {b[0], b[1], hand(4, 2, 2, 3, 14, z+"\x01")},
		"a last part with a byte at its end":  {b[0], b[1], b[2][:63] + "\x01"},
		"a last part of 44 bytes":             {b[0], b[1], hand(4, 2, 2, 3, 44, x)},
		"a last part of 255 bytes":            {b[0], b[1], hand(4, 2, 2, 3, 255, x)},
		"a sector of 63 bytes":                {b[0], b[1], b[2][:63]},
		"a sector of 65 bytes":                {b[0], b[1], b[2] + "\x00"},
		"a first sector of 63 bytes":          {b[0][:63], b[1], b[2]},
		"a sector without zeros at its end":   {b[0], b[1], b[2][:35]},
		"a sector of its head alone":          {b[0], b[1], b[2][:21]},
		"a sector of a part of its head":      {b[0], b[1], b[2][:20]},
		"a sector of nothing":                 {b[0], b[1], ""},
		"zeros for a part":                    {b[0], string(make([]byte, 64)), b[2]},
		"one part, and another record behind": {b[0], c[0], b[2]},
	} {
		epoch := 4
		if what == "a greater epoch in the second part" {
			epoch = 5
		}
		wantScan(t, what, row(a, l, c), []string{"a"}, 1, epoch)
		records, end, e := scanByHand(row(a, l, c))
		if len(records) != 1 || end != 1 || e != epoch {
			t.Error("by hand: ", what, short(records), end, e)
		}
	}
	// Two parts or one of nothing: only the one of a record of nothing is one.
	wantScan(t, "a record of nothing", row(a, byHand(4, 2, ""), c), []string{"a", "", "c"}, 3, 4)
	wantScan(t, "a record of 43 bytes in two parts", row(a, []string{hand(4, 2, 0, 2, 43, x), hand(4, 2, 1, 2, 0, "")}, c), []string{"a"}, 1, 4)
	for i := range 3 {
		for _, bytes := range []string{"", b[i]} {
			l := row(a, b, c)
			l[1+i] = sector.Sector{B: bytes, Bad: true}
			wantScan(t, fmt.Sprint("part ", i, " is bad"), l, []string{"a"}, 1, 4)
		}
	}
}

// TestP1602EachByte: each byte of three records' sectors made another one, and each
// bit of it.
func TestP1602EachByte(t *testing.T) {
	all := row(byHand(0x101, 1, "a"), byHand(0x101, 2, long(50)), byHand(0x102, 3, "c"))
	told := 0
	for i := range all {
		for at := range 64 {
			for x := 1; x < 256; x++ {
				if x&(x-1) != 0 && x%51 != 0 {
					continue
				}
				l := slices.Clone(all)
				b := []byte(l[i].B)
				b[at] ^= byte(x)
				l[i].B = string(b)
				records, end, epoch := scanByHand(l)
				wantScan(t, fmt.Sprint("sector ", i, ", byte ", at, " by ", x), l, records, end, epoch)
				if end == 4 {
					told++
					// The first record may be of a lesser epoch, a last part of zeros more.
					if at < 8 && (i == 1 || i == 2) || at >= 8 && at < 20 || at == 20 && i == 1 {
						t.Error("by hand: sector ", i, ", byte ", at, " by ", x)
					}
				}
			}
		}
	}
	if told < 500 {
		t.Error("only ", told, " were told")
	}
}

// TestP1602Random: rows of sectors that are mostly records, compared with what is
// told by hand.
func TestP1602Random(t *testing.T) {
	r := rand.New(rand.NewSource(1602))
	ends := map[int]int{}
	for range 20000 {
		var l []sector.Sector
		epoch := 1 + r.Intn(3)
		for number := 1; number < 8; number++ {
			epoch += max(0, r.Intn(8)-6)
			l = append(l, row(byHand(epoch, number, long(r.Intn(140))))...)
		}
		for range r.Intn(3) {
			at, other := r.Intn(len(l)), r.Intn(len(l))
			switch r.Intn(6) {
			case 0:
				l[at] = sector.Sector{Bad: true}
			case 1:
				l = slices.Delete(l, at, at+1)
			case 2:
				l[at] = l[other]
			case 3:
				l[at], l[other] = l[other], l[at]
			case 4:
				b := []byte(l[at].B)
				if len(b) > 0 {
					b[r.Intn(len(b))] += byte(1 + r.Intn(3))
				}
				l[at].B = string(b)
			case 5:
				l[at] = row(byHand(r.Intn(9), 1+r.Intn(8), long(r.Intn(43))))[0]
			}
		}
		records, end, epoch := scanByHand(l)
		wantScan(t, "random", l, records, end, epoch)
		if t.Failed() {
			t.Fatalf("%q", shown(l))
		}
		ends[len(records)]++
	}
	for n := range 8 {
		if ends[n] < 100 {
			t.Error("only ", ends[n], " rows tell ", n)
		}
	}
}
