package message_test

import (
	"fmt"
	"math"
	"slices"
	"strings"
	"testing"

	"weighhouse/api"
	"weighhouse/message"
)

func views(view, normal int) message.Record {
	return message.Record{Kind: message.Views, View: view, Normal: normal}
}

func logs(op int, l ...message.Entry) message.Record {
	return message.Record{Kind: message.Logs, Op: op, Log: l}
}

func commits(op int) message.Record {
	return message.Record{Kind: message.Commits, Op: op}
}

// words are a log's Data, all in View 0.
func words(s string) []message.Entry {
	var l []message.Entry
	for _, w := range strings.Fields(s) {
		l = append(l, message.Entry{Data: w})
	}
	return l
}

func TestP1703Example(t *testing.T) {
	wantFold(t, "example", []message.Record{logs(0, words("a b")...), logs(1, words("c")...)}, message.State{Log: words("a c")})
}

func TestP1703NoRecords(t *testing.T) {
	wantFold(t, "nil", nil, message.State{})
	wantFold(t, "empty", []message.Record{}, message.State{})
	wantFold(t, "none ahead of others", []message.Record{views(1, 1)}[:0], message.State{})
}

func TestP1703EachKind(t *testing.T) {
	wantFold(t, "Views", []message.Record{views(5, 3)}, message.State{View: 5, Normal: 3})
	wantFold(t, "Logs", []message.Record{logs(0, entries(3, "a b")...)}, message.State{Log: entries(3, "a b")})
	wantFold(t, "Commits", []message.Record{logs(0, words("a b c")...), commits(2)}, message.State{Commit: 2, Log: words("a b c")})
	wantFold(t, "all", []message.Record{views(2, 1), logs(0, words("a b")...), commits(1), views(4, 4), logs(2, entries(4, "x y")...), commits(3)},
		message.State{View: 4, Normal: 4, Commit: 3, Log: slices.Concat(words("a b"), entries(4, "x y"))})
	wantFold(t, "each again", []message.Record{views(2, 1), views(2, 1), logs(0, words("a b")...), logs(0, words("a b")...), commits(1), commits(1)},
		message.State{View: 2, Normal: 1, Commit: 1, Log: words("a b")})
	wantFold(t, "of nothing", []message.Record{views(0, 0), logs(0), commits(0)}, message.State{})
}

// TestP1703OtherFields: only the fields that the Kind is said to go by count; the
// others may have any number of those that may be.
func TestP1703OtherFields(t *testing.T) {
	l := []message.Record{
		{Kind: message.Views, View: 5, Normal: 2, Op: 99},
		{Kind: message.Logs, View: 3, Normal: 4, Op: 0, Log: words("a b")},
		{Kind: message.Commits, View: 1, Normal: 9, Op: 1},
		{Kind: message.Views, View: 5, Normal: 5, Op: greatest},
		{Kind: message.Logs, View: greatest, Normal: greatest, Op: 2, Log: words("c")},
		{Kind: message.Commits, View: greatest, Normal: 0, Op: 3},
		{Kind: message.Views, View: 6, Normal: 0},
	}
	wantFold(t, "other fields", l, message.State{View: 6, Normal: 0, Commit: 3, Log: words("a b c")})
}

func TestP1703Views(t *testing.T) {
	for _, c := range []struct {
		l    [][2]int // View, Normal
		want [2]int
		ok   bool
	}{
		{[][2]int{{0, 0}}, [2]int{0, 0}, true},
		{[][2]int{{1, 0}}, [2]int{1, 0}, true},
		{[][2]int{{1, 1}}, [2]int{1, 1}, true},
		{[][2]int{{1, 2}}, [2]int{}, false},
		{[][2]int{{0, 1}}, [2]int{}, false},
		{[][2]int{{greatest, greatest}}, [2]int{greatest, greatest}, true},
		{[][2]int{{greatest - 1, greatest}}, [2]int{}, false},
		{[][2]int{{greatest, 0}, {greatest, 5}}, [2]int{greatest, 5}, true},
		{[][2]int{{3, 3}, {3, 3}}, [2]int{3, 3}, true},
		{[][2]int{{3, 3}, {3, 2}}, [2]int{3, 2}, true}, // only its View is said not to be less
		{[][2]int{{3, 3}, {4, 3}, {4, 4}, {9, 4}}, [2]int{9, 4}, true},
		{[][2]int{{3, 3}, {2, 2}}, [2]int{}, false},
		{[][2]int{{3, 3}, {2, 0}}, [2]int{}, false},
		{[][2]int{{3, 0}, {2, 0}}, [2]int{}, false},
		{[][2]int{{1, 0}, {0, 0}}, [2]int{}, false},
		{[][2]int{{3, 3}, {2, 2}, {4, 4}}, [2]int{}, false},
		{[][2]int{{3, 3}, {5, 3}, {4, 3}}, [2]int{}, false},
		{[][2]int{{3, 3}, {5, 6}, {7, 6}}, [2]int{}, false},
		{[][2]int{{greatest, 0}, {greatest - 1, 0}}, [2]int{}, false},
	} {
		var l []message.Record
		for _, x := range c.l {
			l = append(l, views(x[0], x[1]))
		}
		wantFoldOr(t, fmt.Sprint(c.l), l, message.State{View: c.want[0], Normal: c.want[1]}, c.ok)
		// Other records between them change nothing of that.
		for i := len(l); i >= 0; i-- {
			l = slices.Insert(l, i, logs(0, entries(greatest-1, "a")...), commits(0))
		}
		wantFoldOr(t, fmt.Sprint(c.l, " and others"), l, message.State{View: c.want[0], Normal: c.want[1], Log: entries(greatest-1, "a")}, c.ok)
	}
}

func wantFoldOr(t *testing.T, what string, l []message.Record, want message.State, ok bool) {
	t.Helper()
	if ok {
		wantFold(t, what, l, want)
	} else {
		wantNoFold(t, what, l)
	}
}

// TestP1703Logs: what is kept, and what is put behind.
func TestP1703Logs(t *testing.T) {
	for _, c := range []struct {
		op   int
		log  string
		want string
	}{
		{0, "", ""}, {1, "", "a"}, {2, "", "a b"}, {3, "", "a b c"},
		{0, "x", "x"}, {1, "x", "a x"}, {2, "x", "a b x"}, {3, "x", "a b c x"},
		{0, "x y z u", "x y z u"}, {1, "x y z u", "a x y z u"}, {3, "x y z u", "a b c x y z u"},
		{1, "b", "a b"}, {0, "a b c", "a b c"},
		{4, "", "none"}, {4, "x", "none"}, {5, "x", "none"}, {api.MaxLog, "", "none"}, {api.MaxLog + 1, "", "none"}, {greatest, "x", "none"},
	} {
		l := []message.Record{logs(0, words("a b c")...), logs(c.op, words(c.log)...)}
		wantFoldOr(t, fmt.Sprint(c.op, " ", c.log), l, message.State{Log: words(c.want)}, c.want != "none")
		wantFoldOr(t, fmt.Sprint(c.op, " ", c.log, ", and all anew"), append(l, logs(0, words("n")...)), message.State{Log: words("n")}, c.want != "none")
	}
	for op := range 5 {
		wantFoldOr(t, fmt.Sprint("at first: ", op), []message.Record{logs(op, words("a")...)}, message.State{Log: words("a")}, op == 0)
		wantFoldOr(t, fmt.Sprint("at first, and empty: ", op), []message.Record{logs(op)}, message.State{}, op == 0)
	}
}

// TestP1703LogsCut: what was cut off does not come back, and does not count.
func TestP1703LogsCut(t *testing.T) {
	cut := []message.Record{logs(0, words("a b c d")...), logs(1)}
	wantFold(t, "cut", cut, message.State{Log: words("a")})
	wantNoFold(t, "behind what was cut", append(slices.Clone(cut), logs(2, words("x")...)))
	wantNoFold(t, "a Commits behind what was cut", append(slices.Clone(cut), commits(2)))
	wantFold(t, "grown again", append(slices.Clone(cut), logs(1, words("x")...), logs(2, words("y")...), commits(3)), message.State{Commit: 3, Log: words("a x y")})
	wantFold(t, "all cut", append(slices.Clone(cut), logs(0)), message.State{})
}

func TestP1703MaxLog(t *testing.T) {
	full := many(api.MaxLog)
	wantFold(t, "full at once", []message.Record{logs(0, full...)}, message.State{Log: full})
	for _, at := range []int{0, 1, 2, 255, 1024, api.MaxLog - 1, api.MaxLog} {
		l := []message.Record{logs(0, full[:at]...), logs(at, full[at:]...)}
		wantFold(t, fmt.Sprint("full in two: ", at), l, message.State{Log: full})
		l[1].Log = append(slices.Clone(l[1].Log), message.Entry{})
		wantNoFold(t, fmt.Sprint("one more in two: ", at), l)
		l = []message.Record{logs(0, full...), logs(at, full[at:]...), commits(api.MaxLog)}
		wantFold(t, fmt.Sprint("full again from there: ", at), l, message.State{Commit: api.MaxLog, Log: full})
		l[1].Log = append(slices.Clone(l[1].Log), message.Entry{})
		wantNoFold(t, fmt.Sprint("one more from there: ", at), l)
	}
	wantNoFold(t, "one more behind", []message.Record{logs(0, full...), logs(api.MaxLog, message.Entry{})})
	wantNoFold(t, "one more, and cut again", []message.Record{logs(0, full...), logs(api.MaxLog, message.Entry{}), logs(0)})
	wantNoFold(t, "twice as many", []message.Record{logs(0, full...), logs(api.MaxLog, full...)})
	wantNoFold(t, "one more at once", []message.Record{logs(0, many(api.MaxLog+1)...)})
	wantFold(t, "one behind the other", oneByOne(api.MaxLog), message.State{Commit: api.MaxLog, Log: full})
	wantNoFold(t, "one more, one behind the other", append(oneByOne(api.MaxLog), logs(api.MaxLog, message.Entry{})))
}

// oneByOne has an entry and a commit of it, n times.
func oneByOne(n int) []message.Record {
	var l []message.Record
	for i, x := range many(n) {
		l = append(l, logs(i, x), commits(i+1))
	}
	return l
}

func TestP1703Commits(t *testing.T) {
	for _, c := range []struct {
		ops  []int
		want int // -1: none
	}{
		{[]int{0}, 0}, {[]int{1}, 1}, {[]int{2}, 2}, {[]int{3}, 3}, {[]int{4}, -1}, {[]int{5}, -1}, {[]int{api.MaxLog}, -1}, {[]int{greatest}, -1},
		{[]int{1, 1}, 1}, {[]int{1, 2}, 2}, {[]int{1, 3, 3}, 3}, {[]int{0, 3}, 3},
		{[]int{1, 0}, -1}, {[]int{3, 2}, -1}, {[]int{2, 0}, -1}, {[]int{2, 1, 3}, -1}, {[]int{1, 4}, -1}, {[]int{3, 4, 3}, -1},
	} {
		l := []message.Record{logs(0, words("a b c")...)}
		for _, op := range c.ops {
			l = append(l, commits(op))
		}
		wantFoldOr(t, fmt.Sprint(c.ops), l, message.State{Commit: c.want, Log: words("a b c")}, c.want >= 0)
	}
	wantFold(t, "0 of none", []message.Record{commits(0)}, message.State{})
	wantNoFold(t, "1 of none", []message.Record{commits(1)})
	wantNoFold(t, "ahead of its entry", []message.Record{commits(1), logs(0, words("a")...)})
}

// TestP1703LogsBelowCommit: a Logs is not held against Commit, only a Commits is.
func TestP1703LogsBelowCommit(t *testing.T) {
	l := []message.Record{logs(0, words("a b c")...), commits(2)}
	wantFold(t, "anew from below", append(slices.Clone(l), logs(1, words("b d e")...)), message.State{Commit: 2, Log: words("a b d e")})
	wantFold(t, "anew from the first one", append(slices.Clone(l), logs(0, words("a b")...)), message.State{Commit: 2, Log: words("a b")})
	wantFold(t, "at it", append(slices.Clone(l), logs(2)), message.State{Commit: 2, Log: words("a b")})
	cut := append(slices.Clone(l), logs(1))
	wantFold(t, "cut below it", cut, message.State{Commit: 2, Log: words("a")})
	for op := range 4 {
		wantNoFold(t, fmt.Sprint("cut below it, and a Commits of ", op), append(slices.Clone(cut), commits(op)))
	}
	wantFold(t, "cut below it, and grown again", append(slices.Clone(cut), logs(1, words("x y")...), commits(3)), message.State{Commit: 3, Log: words("a x y")})
}

// TestP1703MayNotBe: one that may not be spoils the row, wherever it stands.
func TestP1703MayNotBe(t *testing.T) {
	good := []message.Record{views(2, 1), logs(0, words("a b c")...), commits(1)}
	for _, r := range wrongRecords() {
		for i := range len(good) + 1 {
			wantNoFold(t, fmt.Sprint(tell(r), " at ", i), slices.Insert(slices.Clone(good), i, r))
		}
	}
	for _, n := range []int{-1, math.MinInt, greatest + 1, math.MaxInt} {
		wantNoFold(t, "Views", append(slices.Clone(good), views(n, 0)))
		wantNoFold(t, "Normal", append(slices.Clone(good), views(greatest, n)))
		wantNoFold(t, "Logs", append(slices.Clone(good), logs(n)))
		wantNoFold(t, "Logs of one", append(slices.Clone(good), logs(n, message.Entry{})))
		wantNoFold(t, "Commits", append(slices.Clone(good), commits(n)))
		wantNoFold(t, "an unused field", append(slices.Clone(good), message.Record{Kind: message.Commits, Op: 1, Normal: n}))
	}
}

// TestP1703LongRows: very many records, and logs that are put together anew each time.
func TestP1703LongRows(t *testing.T) {
	var l []message.Record
	for i := range 1 << 18 {
		l = append(l, views(i, i/2))
	}
	wantFold(t, "Views", l, message.State{View: 1<<18 - 1, Normal: 1<<17 - 1})
	wantNoFold(t, "Views, and a lesser one", append(l, views(1<<18-2, 0)))
	full := many(api.MaxLog)
	l = nil
	for range 500 {
		l = append(l, logs(0, full...))
	}
	wantFold(t, "Logs", l, message.State{Log: full})
}
