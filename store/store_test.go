package store_test

import (
	"bytes"
	"encoding/binary"
	"fmt"
	"hash/crc32"
	"math"
	"slices"
	"strings"
	"testing"

	"weighhouse/api"
	"weighhouse/store"
)

// made answers a store of keys and values, put one behind the other.
func made(t *testing.T, l ...string) *store.Store {
	t.Helper()
	s := store.New()
	for i := 0; i < len(l); i += 2 {
		if e := s.Put(l[i], l[i+1]); e != api.OK {
			t.Fatalf("Put(%q, %q): error %d", l[i], l[i+1], e)
		}
	}
	return s
}

// numbered answers a store of n keys that number makes.
func numbered(t *testing.T, n int) *store.Store {
	t.Helper()
	s := store.New()
	for i := range n {
		if e := s.Put(number(i), "v"); e != api.OK {
			t.Fatalf("Put of key %d: error %d", i, e)
		}
	}
	return s
}

func number(i int) string {
	return fmt.Sprintf("key%03d", i)
}

// pairs answers the pairs of keys and values.
func pairs(l ...string) []store.Pair {
	var all []store.Pair
	for i := 0; i < len(l); i += 2 {
		all = append(all, store.Pair{Key: l[i], Value: l[i+1]})
	}
	return all
}

// handBytes builds what a store's bytes are by the chapter's words.
func handBytes(count int, l ...string) []byte {
	b := binary.BigEndian.AppendUint64(nil, uint64(count))
	for _, s := range l {
		b = binary.BigEndian.AppendUint16(b, uint16(len(s)))
		b = append(b, s...)
	}
	return b
}

func wantPairs(t *testing.T, what string, got []store.Pair, want ...string) {
	t.Helper()
	if !slices.Equal(got, pairs(want...)) {
		t.Errorf("%s: %q, want %q", what, got, pairs(want...))
	}
}

// wantStore: all looks at the store tell of these pairs.
func wantStore(t *testing.T, what string, s *store.Store, want ...string) {
	t.Helper()
	wantPairs(t, what, s.Scan("", "", 0), want...)
	if s.Len() != len(want)/2 {
		t.Errorf("%s: Len %d, want %d", what, s.Len(), len(want)/2)
	}
	if b := handBytes(len(want)/2, want...); !bytes.Equal(s.Bytes(), b) {
		t.Errorf("%s: Bytes %v, want %v", what, s.Bytes(), b)
	}
}

func wantErr(t *testing.T, what string, got, want api.Errno) {
	t.Helper()
	if got != want {
		t.Errorf("%s: error %d, want %d", what, got, want)
	}
}

// wantText holds an answer and its bool against a wanted text, or "-" for none.
func wantText(t *testing.T, what, want string) func(got string, ok bool) {
	t.Helper()
	return func(got string, ok bool) {
		t.Helper()
		if want == "-" && (got != "" || ok) || want != "-" && (got != want || !ok) {
			t.Errorf("%s: %q %v, want %q", what, got, ok, want)
		}
	}
}

func TestP1102Example(t *testing.T) {
	s := made(t, "b", "1", "a", "2")
	wantText(t, `Next("")`, "a")(s.Next(""))
}

func TestP1102PutAndGet(t *testing.T) {
	s := made(t, "b", "1", "a", "2", "c", "")
	wantText(t, "a", "2")(s.Get("a"))
	wantText(t, "b", "1")(s.Get("b"))
	wantText(t, "c, whose value is empty", "")(s.Get("c"))
	for _, key := range []string{"", "aa", "A", "d", "b\x00"} {
		wantText(t, key, "-")(s.Get(key))
	}
	wantErr(t, "b again", s.Put("b", "other"), api.OK)
	wantStore(t, "b again", s, "a", "2", "b", "other", "c", "")
}

func TestP1102EmptyKey(t *testing.T) {
	s := made(t, "a", "1", "", "empty")
	wantText(t, "the empty key", "empty")(s.Get(""))
	wantText(t, "Next of the empty key", "a")(s.Next(""))
	wantStore(t, "with the empty key", s, "", "empty", "a", "1")
	wantErr(t, "the empty key with an empty value", s.Put("", ""), api.OK)
	wantStore(t, "with an empty value", s, "", "", "a", "1")
	if !s.Delete("") || s.Delete("") {
		t.Error("Delete of the empty key")
	}
	wantText(t, "the empty key that went", "-")(s.Get(""))
	wantStore(t, "without the empty key", s, "a", "1")
}

func TestP1102Delete(t *testing.T) {
	s := made(t, "a", "1", "b", "2", "c", "3")
	for i, want := range []bool{true, false} {
		if s.Delete("b") != want {
			t.Errorf("Delete of b, %d times before: %v", i, !want)
		}
		wantStore(t, "without b", s, "a", "1", "c", "3")
	}
	if s.Delete("") || s.Delete("bb") || s.Delete(strings.Repeat("a", 1000)) {
		t.Error("Delete of a key that is not there")
	}
	wantErr(t, "b again", s.Put("b", "4"), api.OK)
	wantStore(t, "with b again", s, "a", "1", "b", "4", "c", "3")
	for _, key := range []string{"a", "b", "c"} {
		if !s.Delete(key) {
			t.Error("Delete of", key)
		}
	}
	wantStore(t, "without all", s)
}

func TestP1102Next(t *testing.T) {
	s := made(t, "b", "1", "bb", "2", "d", "3", "\xff", "4")
	long := strings.Repeat("b", api.MaxKey+1)
	for _, x := range [][2]string{{"", "b"}, {"a", "b"}, {"b", "bb"}, {"ba", "bb"}, {"bb", "d"}, {"c", "d"}, {"d", "\xff"},
		{"\xfe\xff", "\xff"}, {"\xff", "-"}, {"\xff\x00", "-"}, {"b\x00", "bb"}, {long, "d"}} {
		wantText(t, "Next of "+x[0], x[1])(s.Next(x[0]))
	}
	wantText(t, "Next in an empty store", "-")(store.New().Next(""))
}

func TestP1102Long(t *testing.T) {
	key, value := strings.Repeat("k", api.MaxKey), strings.Repeat("v", api.MaxValue)
	s := made(t, "a", "1", key, value)
	wantText(t, "a key of MaxKey bytes", value)(s.Get(key))
	for _, x := range [][2]string{{key + "k", ""}, {"a", value + "v"}, {key, value + "v"}, {key + "k", value + "v"}, {"new", value + "v"},
		{strings.Repeat("k", 1<<20), ""}, {"", strings.Repeat("v", 1<<20)}} {
		wantErr(t, fmt.Sprint("a key of ", len(x[0]), " bytes, a value of ", len(x[1])), s.Put(x[0], x[1]), api.ErrLong)
	}
	wantText(t, "a key of MaxKey bytes and one more", "-")(s.Get(key + "k"))
	wantText(t, "Next of a key of MaxKey bytes and one more", "-")(s.Next(key + "k"))
	wantStore(t, "behind what was too long", s, "a", "1", key, value)
}

func TestP1102Room(t *testing.T) {
	s := numbered(t, api.MaxKeys)
	was := s.Bytes()
	for _, key := range []string{"", "key", number(api.MaxKeys), "z"} {
		wantErr(t, "one more", s.Put(key, ""), api.ErrRoom)
	}
	wantErr(t, "one more that is too long", s.Put("new", strings.Repeat("v", api.MaxValue+1)), api.ErrLong)
	if !bytes.Equal(s.Bytes(), was) || s.Len() != api.MaxKeys {
		t.Error("changed by a Put without room")
	}
	wantErr(t, "one that is there", s.Put(number(7), "w"), api.OK)
	wantText(t, "one that is there", "w")(s.Get(number(7)))
	if !s.Delete(number(9)) {
		t.Error("Delete")
	}
	wantErr(t, "one behind a Delete", s.Put("new", "n"), api.OK)
	wantErr(t, "the one that went", s.Put(number(9), ""), api.ErrRoom)
	if s.Len() != api.MaxKeys {
		t.Error("Len", s.Len())
	}
}

func TestP1102Scan(t *testing.T) {
	s := made(t, "", "0", "a", "1", "b", "2", "bb", "3", "c", "4")
	for _, x := range []struct {
		from, to string
		most     int
		want     []string
	}{
		{"", "", 0, []string{"", "0", "a", "1", "b", "2", "bb", "3", "c", "4"}},
		{"a", "", 0, []string{"a", "1", "b", "2", "bb", "3", "c", "4"}},
		{"a\x00", "", 0, []string{"b", "2", "bb", "3", "c", "4"}},
		{"c", "", 0, []string{"c", "4"}},
		{"d", "", 0, nil},
		{"", "c", 0, []string{"", "0", "a", "1", "b", "2", "bb", "3"}},
		{"", "a", 0, []string{"", "0"}},
		{"", "\x00", 0, []string{"", "0"}},
		{"a", "bb", 0, []string{"a", "1", "b", "2"}},
		{"aa", "ba", 0, []string{"b", "2"}},
		{"a", "zz", 0, []string{"a", "1", "b", "2", "bb", "3", "c", "4"}},
		{"b", "b", 0, nil},
		{"b", "a", 0, nil},
		{"b", "a", 3, nil},
		{"b", "b\x00", 0, []string{"b", "2"}},
		{"", "", 1, []string{"", "0"}},
		{"a", "", 1, []string{"a", "1"}},
		{"a", "bb", 1, []string{"a", "1"}},
		{"a", "bb", 2, []string{"a", "1", "b", "2"}},
		{"a", "bb", 3, []string{"a", "1", "b", "2"}},
		{"", "", 4, []string{"", "0", "a", "1", "b", "2", "bb", "3"}},
		{"", "", 5, []string{"", "0", "a", "1", "b", "2", "bb", "3", "c", "4"}},
		{"", "", 6, []string{"", "0", "a", "1", "b", "2", "bb", "3", "c", "4"}},
		{"b", "", math.MaxInt, []string{"b", "2", "bb", "3", "c", "4"}},
		{"", "", -1, nil},
		{"a", "c", math.MinInt, nil},
	} {
		wantPairs(t, fmt.Sprintf("Scan(%q, %q, %d)", x.from, x.to, x.most), s.Scan(x.from, x.to, x.most), x.want...)
	}
	for _, most := range []int{-1, 0, 1} {
		wantPairs(t, "Scan of an empty store", store.New().Scan("", "", most))
	}
}

func TestP1102ScanFromLongTexts(t *testing.T) {
	s := made(t, "a", "1", "b", "2")
	long := strings.Repeat("a", 1<<20)
	wantPairs(t, "from a long text", s.Scan(long, "", 0), "b", "2")
	wantPairs(t, "to a long text", s.Scan("", long, 0), "a", "1")
}

func TestP1102Bytes(t *testing.T) {
	wantStore(t, "empty", store.New())
	wantStore(t, "b, a", made(t, "b", "1", "a", "22"), "a", "22", "b", "1")
	if b := made(t, "b", "1", "a", "22").Bytes(); !bytes.Equal(b, []byte{0, 0, 0, 0, 0, 0, 0, 2, 0, 1, 'a', 0, 2, '2', '2', 0, 1, 'b', 0, 1, '1'}) {
		t.Error(b)
	}
	full := store.New()
	var l []string
	for i := range api.MaxKeys {
		l = append(l, number(i)+strings.Repeat("k", api.MaxKey-6), strings.Repeat("v", api.MaxValue))
		wantErr(t, "Put", full.Put(l[2*i], l[2*i+1]), api.OK)
	}
	wantStore(t, "the longest", full, l...)
}

func TestP1102Hash(t *testing.T) {
	for _, l := range [][]string{nil, {"", ""}, {"a", "1"}, {"a", "2"}, {"b", "1", "a", "22"}} {
		s := made(t, l...)
		if want := int(crc32.ChecksumIEEE(s.Bytes())); s.Hash() != want {
			t.Errorf("%q: Hash %d, want %d", l, s.Hash(), want)
		}
	}
	if n := store.New().Hash(); n != 0x6522df69 {
		t.Errorf("Hash of an empty store: %#x", n)
	}
}

func TestP1102Clone(t *testing.T) {
	s := made(t, "a", "1", "b", "2", "c", "3")
	c := s.Clone()
	wantStore(t, "the clone", c, "a", "1", "b", "2", "c", "3")
	s.Put("a", "other")
	s.Put("d", "4")
	s.Delete("b")
	wantStore(t, "the clone behind changes of the store", c, "a", "1", "b", "2", "c", "3")
	wantStore(t, "the store", s, "a", "other", "c", "3", "d", "4")
	c.Put("b", "else")
	c.Put("e", "5")
	c.Delete("c")
	wantStore(t, "the store behind changes of the clone", s, "a", "other", "c", "3", "d", "4")
	wantStore(t, "the clone", c, "a", "1", "b", "else", "e", "5")
	second := c.Clone().Clone()
	wantStore(t, "a clone's clone", second, "a", "1", "b", "else", "e", "5")
	wantStore(t, "the clone of an empty store", store.New().Clone())
	full := numbered(t, api.MaxKeys).Clone()
	wantErr(t, "one more in a clone", full.Put("new", ""), api.ErrRoom)
	wantErr(t, "one that is there in a clone", full.Put(number(3), ""), api.OK)
}

// TestP1102ClonesGrowApart: what both sides put next must not come to lie in the
// same room.
func TestP1102ClonesGrowApart(t *testing.T) {
	for n := range 40 {
		s := numbered(t, n)
		c := s.Clone()
		s.Put("x", "of s")
		c.Put("y", "of c")
		s.Put("z", "of s too")
		wantText(t, "x", "of s")(s.Get("x"))
		wantText(t, "y in s", "-")(s.Get("y"))
		wantText(t, "y", "of c")(c.Get("y"))
		wantText(t, "x in c", "-")(c.Get("x"))
		wantText(t, "z in c", "-")(c.Get("z"))
		if s.Len() != n+2 || c.Len() != n+1 {
			t.Error("Len", s.Len(), c.Len())
		}
	}
}

func TestP1102Read(t *testing.T) {
	for _, l := range [][]string{nil, {"", ""}, {"a", "1"}, {"", "0", "a", "", "aa", "2", "b", "3"}, {"\x00", "\xff", "\xff", "\x00"},
		{strings.Repeat("k", api.MaxKey), strings.Repeat("v", api.MaxValue)}} {
		s, e := store.Read(handBytes(len(l)/2, l...))
		if e != api.OK {
			t.Errorf("%q: error %d", l, e)
			continue
		}
		wantStore(t, "read", s, l...)
		wantErr(t, "Put in what was read", s.Put("m", "n"), api.OK)
		wantText(t, "Get in what was read", "n")(s.Get("m"))
	}
	full, e := store.Read(numbered(t, api.MaxKeys).Bytes())
	wantErr(t, "MaxKeys keys", e, api.OK)
	wantErr(t, "one more", full.Put("new", ""), api.ErrRoom)
}

func wantNone(t *testing.T, what string, b []byte) {
	t.Helper()
	if s, e := store.Read(b); s != nil || e != api.ErrForm {
		t.Errorf("%s: %v, error %d", what, s, e)
	}
}

func TestP1102ReadOfNoStore(t *testing.T) {
	long := strings.Repeat("k", api.MaxKey+1)
	for what, b := range map[string][]byte{
		"nothing":                nil,
		"one byte":               {0},
		"seven bytes":            make([]byte, 7),
		"nine bytes":             make([]byte, 9),
		"too few pairs":          handBytes(2, "a", "1"),
		"no pair":                handBytes(1),
		"a key alone":            handBytes(1, "a"),
		"too many pairs":         handBytes(1, "a", "1", "b", "2"),
		"a pair of none":         handBytes(0, "a", "1"),
		"below 0":                handBytes(-1),
		"below 0, a pair":        handBytes(-1, "a", "1"),
		"the least number":       handBytes(math.MinInt),
		"the greatest number":    handBytes(math.MaxInt, "a", "1"),
		"keys that fall":         handBytes(2, "b", "1", "a", "2"),
		"keys that fall later":   handBytes(3, "a", "1", "c", "2", "b", "3"),
		"the empty key last":     handBytes(2, "a", "1", "", "2"),
		"a key twice":            handBytes(2, "a", "1", "a", "1"),
		"the empty key twice":    handBytes(2, "", "", "", ""),
		"a key twice, in turn":   handBytes(3, "a", "1", "b", "1", "a", "1"),
		"a key that is too long": handBytes(1, long, "1"),
		"a long key later":       handBytes(2, "a", "1", long, "1"),
		"a value too long":       handBytes(1, "a", strings.Repeat("v", api.MaxValue+1)),
		"the longest text":       handBytes(1, "a", strings.Repeat("v", 65535)),
		"many zeros":             make([]byte, 1<<20),
	} {
		wantNone(t, what, b)
	}
	var l []string
	for i := range api.MaxKeys + 1 {
		l = append(l, number(i), "v")
	}
	wantNone(t, "MaxKeys and one more", handBytes(api.MaxKeys+1, l...))
	wantNone(t, "one more than is told", handBytes(api.MaxKeys, l...))
}

func TestP1102ReadOfAByteMoreOrLess(t *testing.T) {
	b := made(t, "", "0", "a", "1", "bb", "", "c", "333").Bytes()
	for n := range b {
		wantNone(t, fmt.Sprint(n, " bytes of ", len(b)), b[:n])
	}
	for _, x := range []byte{0, 1, 'a', 255} {
		wantNone(t, "one more", append(slices.Clone(b), x))
		wantNone(t, "one ahead", append([]byte{x}, b...))
	}
	for at := range b {
		wantNone(t, fmt.Sprint("without the byte ", at), slices.Delete(slices.Clone(b), at, at+1))
	}
}

func TestP1105StoresOfTheSamePairs(t *testing.T) {
	want := numbered(t, 100)
	falling, mixed := store.New(), store.New()
	for i := range 100 {
		falling.Put(number(99-i), "v")
		mixed.Put(number(i*37%100), "other")
		mixed.Put(number(i*37%100)+"x", "goes")
	}
	for i := range 100 {
		mixed.Put(number(i*61%100), "v")
		mixed.Delete(number(i*7%100) + "x")
	}
	for _, s := range []*store.Store{falling, mixed, want.Clone()} {
		if !bytes.Equal(s.Bytes(), want.Bytes()) || s.Hash() != want.Hash() || s.Len() != 100 {
			t.Error("the same pairs have other bytes")
		}
	}
	falling.Put(number(3), "w")
	if bytes.Equal(falling.Bytes(), want.Bytes()) || falling.Hash() == want.Hash() {
		t.Error("other pairs have the same bytes")
	}
}

// FuzzRead: of any bytes, what is read is written as the same bytes.
func FuzzRead(f *testing.F) {
	f.Add([]byte{})
	f.Add(handBytes(0))
	f.Add(handBytes(1, "", ""))
	f.Add(handBytes(2, "a", "1", "b", "2"))
	f.Add(handBytes(2, "b", "1", "a", "2"))
	f.Add(handBytes(3, "a", "1", "a", "2"))
	f.Fuzz(func(t *testing.T, b []byte) {
		s, e := store.Read(b)
		if e == api.OK && !bytes.Equal(s.Bytes(), b) || e != api.OK && (s != nil || e != api.ErrForm) {
			t.Error(s, e)
		}
	})
}
