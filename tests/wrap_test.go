package tests

import (
	"fmt"
	"math"
	"slices"
	"strings"
	"testing"

	"loop.example/textsinlines/impl"
)

// notWidths are widths that no line can have.
var notWidths = []int{math.MinInt, -6, -1, 0, impl.MaxText + 1, 1000, math.MaxInt}

// someWidths are widths that lines can have: short ones, and those at the limits of words and texts.
var someWidths = []int{1, 2, 3, 4, 5, 6, 7, 8, 9, 10, 11, 12, 13, 24, 25, 26, 115, 116, 117, 119, 120}

// longest is a word as long as one can be.
var longest = rep("w", impl.MaxWord)

// someWords returns words of many shapes, with their limits: none at all, one alone, and as many as there can be.
func someWords() [][]string {
	lists := listsOver([]string{"a", "bb", "cccc"}, 5)
	for _, list := range listsOver([]string{"a", "ddd"}, 4) {
		lists = append(lists, slices.Concat(list, []string{"bb"}, list))
	}
	for n := range impl.MaxWords + 1 {
		lists = append(lists, repLines("a", n), repLines(longest, n), repLines("bbb", n))
	}
	return append(lists,
		[]string{longest, "a"}, []string{"a", longest}, []string{"a", longest, "a"},
		[]string{"a", "bb", "ccc", "dddd", "eeeee", "ffffff", "ggggggg", "hhhhhhhh", "iiiiiiiii"},
		[]string{"iiiiiiiii", "hhhhhhhh", "ggggggg", "ffffff", "eeeee", "dddd", "ccc", "bb", "a"},
		[]string{"aaa", "bb", "cc", "ddddd"},
		[]string{"Not", "all", "words,", "it", "seems,", "are", "of", "letters:", "!~"},
		[]string{"the", "same", "the", "same", "the", "same"})
}

// notWords returns lists that are no words: too many, or with one that is no word.
func notWords() [][]string {
	lists := [][]string{repLines("a", impl.MaxWords+1), repLines("a", 1000), repLines(longest, impl.MaxWords+1)}
	for _, s := range []string{"", " ", "a b", " a", "a ", "\t", "a\n", "\x00", "\x1f", "\x7f", "\x80", "\xff", "\u00e9", longest + "w", rep("w", 1000)} {
		lists = append(lists, []string{s}, []string{"a", s}, []string{s, "a"}, append(repLines("a", impl.MaxWords-1), s))
	}
	return lists
}

// forWords calls what is to be tried with all words in all widths.
func forWords(try func(list []string, width int)) {
	for _, list := range someWords() {
		for _, width := range someWidths {
			try(list, width)
		}
	}
}

// oneLine returns words in one line.
func oneLine(list []string) string {
	return strings.Join(list, " ")
}

// waysFrom returns all ways to put words into lines that fit, those with fewer words in the first line ahead.
func waysFrom(list []string, width int) [][]string {
	if len(list) == 0 {
		return [][]string{nil}
	}
	var ways [][]string
	for n := 1; n <= len(list) && len(oneLine(list[:n])) <= width; n++ {
		for _, rest := range waysFrom(list[n:], width) {
			ways = append(ways, append([]string{oneLine(list[:n])}, rest...))
		}
	}
	return ways
}

// rawCost returns what CostOf lines must be.
func rawCost(lines []string, width int) int {
	cost := 0
	for i, line := range lines {
		if i < len(lines)-1 {
			cost += (width - len(line)) * (width - len(line))
		}
	}
	return cost
}

// bestFrom returns the lines of the least cost: for each word that a line begins with, from the last one on, the line of the most words that is among the best.
func bestFrom(list []string, width int) []string {
	best := make([][]string, len(list)+1)
	for i := len(list) - 1; i >= 0; i-- {
		least := math.MaxInt
		for end := len(list); end > i; end-- {
			line := oneLine(list[i:end])
			if len(line) > width || end < len(list) && best[end] == nil {
				continue
			}
			lines := append([]string{line}, best[end]...)
			if cost := rawCost(lines, width); cost < least {
				best[i], least = lines, cost
			}
		}
	}
	return best[0]
}

func TestLimitsOfWrapping(t *testing.T) {
	if impl.MaxWord != 12 || impl.MaxWords != 9 {
		t.Errorf("limits = %d, %d", impl.MaxWord, impl.MaxWords)
	}
}

// Promise 10.

func TestValidWords(t *testing.T) {
	lists := append(someWords(), nil, []string{}, repLines(longest, impl.MaxWords))
	for _, b := range allPlain()[1:] {
		lists = append(lists, []string{string(b)}, []string{"a", string(b) + "a"}, []string{rep(string(b), impl.MaxWord)})
	}
	for _, list := range lists {
		if !impl.ValidWords(list) {
			t.Errorf("ValidWords(%q) = false", list)
		}
	}
	bad := notWords()
	for _, s := range notTexts() {
		bad = append(bad, []string{s}, []string{"a", s, "b"})
	}
	for _, list := range bad {
		if impl.ValidWords(list) {
			t.Errorf("ValidWords(%q) = true", list)
		}
	}
}

func TestPromise10WordsAreToldApart(t *testing.T) {
	for _, list := range someWords() {
		again := impl.WordsOf(oneLine(list))
		wantList(t, fmt.Sprintf("WordsOf(%q)", oneLine(list)), again, list)
		if !impl.ValidWords(again) {
			t.Errorf("ValidWords(%q) = false", again)
		}
	}
}

// Promise 11.

// wantNoWrap reports lines that are there, but must not be.
func wantNoWrap(t *testing.T, list []string, width int) {
	t.Helper()
	if got, ok := impl.WrapWords(list, width); ok || len(got) != 0 {
		t.Errorf("WrapWords(%q, %d) = %q, %v", list, width, got, ok)
	}
	if got, ok := impl.EvenWrap(list, width); ok || len(got) != 0 {
		t.Errorf("EvenWrap(%q, %d) = %q, %v", list, width, got, ok)
	}
}

func TestWrapWords(t *testing.T) {
	for _, c := range []struct {
		list  []string
		width int
		want  []string
	}{
		{nil, 1, nil},
		{[]string{}, impl.MaxText, nil},
		{[]string{"a"}, 1, []string{"a"}},
		{[]string{"abc"}, 3, []string{"abc"}},
		{[]string{"abc"}, impl.MaxText, []string{"abc"}},
		{[]string{"a", "b"}, 2, []string{"a", "b"}},
		{[]string{"a", "b"}, 3, []string{"a b"}},
		{[]string{"aaa", "bbb", "ccc"}, 3, []string{"aaa", "bbb", "ccc"}},
		{[]string{"aaa", "bb", "cc", "ddddd"}, 5, []string{"aaa", "bb cc", "ddddd"}},
		{[]string{"aaa", "bb", "cc", "ddddd"}, 6, []string{"aaa bb", "cc", "ddddd"}},
		{[]string{"aaa", "bb", "cc", "ddddd"}, 8, []string{"aaa bb", "cc ddddd"}},
		{[]string{"aaa", "bb", "cc", "ddddd"}, 9, []string{"aaa bb cc", "ddddd"}},
		{[]string{"aaa", "bb", "cc", "ddddd"}, 14, []string{"aaa bb cc", "ddddd"}},
		{[]string{"aaa", "bb", "cc", "ddddd"}, 15, []string{"aaa bb cc ddddd"}},
		{repLines(longest, impl.MaxWords), impl.MaxWord, repLines(longest, impl.MaxWords)},
		{repLines(longest, 3), 2*impl.MaxWord + 1, []string{longest + " " + longest, longest}},
		{repLines(longest, impl.MaxWords), 116, []string{oneLine(repLines(longest, impl.MaxWords))}},
		{repLines(longest, impl.MaxWords), 115, []string{oneLine(repLines(longest, impl.MaxWords-1)), longest}},
		{repLines("a", impl.MaxWords), 5, []string{"a a a", "a a a", "a a a"}},
		{repLines("a", impl.MaxWords), 1, repLines("a", impl.MaxWords)},
	} {
		got, ok := impl.WrapWords(c.list, c.width)
		wantTrue(t, fmt.Sprintf("WrapWords(%q, %d)", c.list, c.width), got, ok, c.want)
	}
}

func TestWrapWordsOfOtherArguments(t *testing.T) {
	for _, width := range notWidths {
		for _, list := range [][]string{nil, {"a"}, {"a", "bb", "cccc"}} {
			wantNoWrap(t, list, width)
		}
	}
	for _, list := range notWords() {
		for _, width := range []int{1, 12, 20, impl.MaxText} {
			wantNoWrap(t, list, width)
		}
	}
	for _, list := range [][]string{{"abc"}, {"abc", "a"}, {"a", "abc"}, {"a", "b", "abc", "d"}} {
		wantNoWrap(t, list, 1)
		wantNoWrap(t, list, 2)
	}
	wantNoWrap(t, []string{longest}, impl.MaxWord-1)
	wantNoWrap(t, append(repLines("a", impl.MaxWords-1), longest), impl.MaxWord-1)
}

func TestPromise11TheGreedyWayNeedsTheFewestLines(t *testing.T) {
	forWords(func(list []string, width int) {
		lines, ok := impl.WrapWords(list, width)
		if ok != (sizeOf(list) <= width) {
			t.Errorf("WrapWords(%q, %d) = %v", list, width, ok)
		}
		if !ok {
			return
		}
		wantText(t, fmt.Sprintf("WrapWords(%q, %d) in one line", list, width), oneLine(lines), oneLine(list))
		for i, line := range lines {
			if line == "" || len(line) > width || impl.FoldText(line) != line {
				t.Errorf("WrapWords(%q, %d) has %q", list, width, line)
			}
			if i > 0 && len(lines[i-1]+" "+impl.WordsOf(line)[0]) <= width {
				t.Errorf("WrapWords(%q, %d) = %q: the first word of line %d fits ahead", list, width, lines, i+1)
			}
		}
		if even, ok := impl.EvenWrap(list, width); !ok || len(lines) > len(even) {
			t.Errorf("WrapWords(%q, %d) = %q, EvenWrap = %q", list, width, lines, even)
		}
	})
}

// Promise 12.

func TestCostOf(t *testing.T) {
	for _, c := range []struct {
		lines []string
		width int
		want  int
	}{
		{nil, 1, 0},
		{[]string{}, impl.MaxText, 0},
		{[]string{""}, 1, 0},
		{[]string{"a"}, 1, 0},
		{[]string{"a"}, impl.MaxText, 0},
		{[]string{"", ""}, 1, 1},
		{[]string{"", ""}, impl.MaxText, impl.MaxText * impl.MaxText},
		{[]string{"a", "b"}, 1, 0},
		{[]string{"a", "b"}, 4, 9},
		{[]string{"abcd", "b"}, 4, 0},
		{[]string{"b", "abcd"}, 4, 9},
		{[]string{"ab ", " a", "", "abcd"}, 4, 1 + 4 + 16},
		{[]string{"aaa bb", "cc", "ddddd"}, 6, 16},
		{[]string{"aaa", "bb cc", "ddddd"}, 6, 10},
		{[]string{"   ", "   ", "   "}, 5, 8},
		{repLines("", impl.MaxLines), impl.MaxText, 19 * 14400},
		{repLines(rep("a", impl.MaxText), impl.MaxLines), impl.MaxText, 0},
		{repLines("abc", impl.MaxLines), 5, 19 * 4},
	} {
		if got := impl.CostOf(c.lines, c.width); got != c.want {
			t.Errorf("CostOf(%q, %d) = %d, want %d", c.lines, c.width, got, c.want)
		}
	}
}

func TestCostOfOtherArguments(t *testing.T) {
	want := func(lines []string, width int) {
		if got := impl.CostOf(lines, width); got != -1 {
			t.Errorf("CostOf(%q, %d) = %d, want -1", lines, width, got)
		}
	}
	for _, width := range notWidths {
		want(nil, width)
		want([]string{""}, width)
		want([]string{"a", "b"}, width)
	}
	for _, lines := range notLists() {
		want(lines, impl.MaxText)
		want(lines, 1)
	}
	for _, lines := range [][]string{{"abc"}, {"abc", "a"}, {"a", "abc"}, {"a", "   ", "b"}, {"", "", "a  "}} {
		want(lines, 2)
		want(lines, 1)
	}
	want([]string{"a", rep("a", impl.MaxText)}, impl.MaxText-1)
}

func TestPromise12CostsAreOfAllLinesButTheLastOne(t *testing.T) {
	lists := listsOver([]string{"", "a", "b c", "  ", "dddd"}, 4)
	lists = append(lists, repLines("ab", impl.MaxLines-1), repLines("", impl.MaxLines-1))
	for _, lines := range lists {
		for _, width := range []int{4, 5, 9, impl.MaxText} {
			cost := impl.CostOf(lines, width)
			if cost != rawCost(lines, width) {
				t.Errorf("CostOf(%q, %d) = %d", lines, width, cost)
			}
			want := cost
			if len(lines) > 0 {
				missing := width - len(lines[len(lines)-1])
				want += missing * missing
			}
			for _, line := range []string{"", "e", "dddd"} {
				more := append(slices.Clone(lines), line)
				if got := impl.CostOf(more, width); got != want {
					t.Errorf("CostOf(%q, %d) = %d, want %d", more, width, got, want)
				}
			}
		}
	}
}

// Promise 13.

func TestEvenWrap(t *testing.T) {
	for _, c := range []struct {
		list  []string
		width int
		want  []string
	}{
		{nil, 1, nil},
		{[]string{}, impl.MaxText, nil},
		{[]string{"a"}, 1, []string{"a"}},
		{[]string{"abc"}, 3, []string{"abc"}},
		{[]string{"abc"}, impl.MaxText, []string{"abc"}},
		{[]string{"a", "b"}, 3, []string{"a b"}},
		{[]string{"a", "b"}, 2, []string{"a", "b"}},
		{[]string{"aaa", "bb", "cc", "ddddd"}, 6, []string{"aaa", "bb cc", "ddddd"}},
		{[]string{"aaa", "bb", "cc", "ddddd"}, 15, []string{"aaa bb cc ddddd"}},
		{[]string{"a", "a", "a", "dddd"}, 5, []string{"a a a", "dddd"}},
		// The greedy way leaves a word alone in the second line, or in the third one.
		{[]string{"a", "b", "c", "d", "dddddd"}, 6, []string{"a b", "c d", "dddddd"}},
		{[]string{"eeeee", "a", "b", "c", "d", "dddddd"}, 6, []string{"eeeee", "a b", "c d", "dddddd"}},
		// Two ways cost the same, and differ in the first line, or in the second one.
		{[]string{"a", "b", "c", "ddd"}, 4, []string{"a b", "c", "ddd"}},
		{[]string{"eeee", "a", "b", "c", "ddd"}, 4, []string{"eeee", "a b", "c", "ddd"}},
		{repLines("a", impl.MaxWords), 1, repLines("a", impl.MaxWords)},
		{repLines("a", impl.MaxWords), 5, []string{"a a a", "a a a", "a a a"}},
		{repLines(longest, impl.MaxWords), impl.MaxWord, repLines(longest, impl.MaxWords)},
		{repLines(longest, impl.MaxWords), 116, []string{oneLine(repLines(longest, impl.MaxWords))}},
	} {
		got, ok := impl.EvenWrap(c.list, c.width)
		wantTrue(t, fmt.Sprintf("EvenWrap(%q, %d)", c.list, c.width), got, ok, c.want)
	}
}

func TestPromise13EvenLinesAreTheLeastRagged(t *testing.T) {
	forWords(func(list []string, width int) {
		even, ok := impl.EvenWrap(list, width)
		greedy, there := impl.WrapWords(list, width)
		if ok != there {
			t.Errorf("EvenWrap(%q, %d) = %v", list, width, ok)
		}
		if !ok {
			return
		}
		wantList(t, fmt.Sprintf("EvenWrap(%q, %d)", list, width), even, bestFrom(list, width))
		wantText(t, fmt.Sprintf("EvenWrap(%q, %d) in one line", list, width), oneLine(even), oneLine(list))
		cost := impl.CostOf(even, width)
		if cost < 0 || cost > impl.CostOf(greedy, width) {
			t.Errorf("EvenWrap(%q, %d) = %q costs %d", list, width, even, cost)
		}
		if len(list) > 6 {
			return
		}
		for _, way := range waysFrom(list, width) {
			if impl.CostOf(way, width) < cost {
				t.Errorf("EvenWrap(%q, %d) = %q costs more than %q", list, width, even, way)
			}
		}
	})
}

// fewerWords reports whether a has fewer words than b in the first line in which they differ.
func fewerWords(a, b []string) bool {
	for i := range min(len(a), len(b)) {
		if a[i] != b[i] {
			return len(a[i]) < len(b[i])
		}
	}
	return false
}

func TestOfEvenLinesTheFirstOnesAreFull(t *testing.T) {
	ties := 0
	for _, list := range listsOver([]string{"a", "bb", "cccc"}, 6) {
		for width := 4; width <= 9; width++ {
			even, _ := impl.EvenWrap(list, width)
			for _, way := range waysFrom(list, width) {
				if impl.CostOf(way, width) != impl.CostOf(even, width) || slices.Equal(way, even) {
					continue
				}
				ties++
				if !fewerWords(way, even) {
					t.Errorf("EvenWrap(%q, %d) = %q, but %q costs the same", list, width, even, way)
				}
			}
		}
	}
	if ties < 100 {
		t.Errorf("only %d ways cost the same", ties)
	}
}

// Promise 14.

func TestLeastWidth(t *testing.T) {
	for _, c := range []struct {
		list    []string
		n, want int
	}{
		{nil, 1, 1},
		{[]string{}, impl.MaxWords, 1},
		{[]string{"a"}, 1, 1},
		{[]string{"a", "b"}, 1, 3},
		{[]string{"a", "b"}, 2, 1},
		{[]string{"abc"}, 1, 3},
		{[]string{"abc"}, impl.MaxWords, 3},
		{[]string{"aaa", "bb", "cc", "ddddd"}, 1, 15},
		{[]string{"aaa", "bb", "cc", "ddddd"}, 2, 8},
		{[]string{"aaa", "bb", "cc", "ddddd"}, 3, 5},
		{[]string{"aaa", "bb", "cc", "ddddd"}, 4, 5},
		{[]string{"aaa", "bb", "cc", "ddddd"}, impl.MaxWords, 5},
		{repLines(longest, impl.MaxWords), 1, 116},
		{repLines(longest, impl.MaxWords), 2, 64},
		{repLines(longest, impl.MaxWords), 8, 25},
		{repLines(longest, impl.MaxWords), impl.MaxWords, impl.MaxWord},
		{repLines("a", impl.MaxWords), impl.MaxWords, 1},
		{repLines("a", impl.MaxWords), impl.MaxWords - 1, 3},
	} {
		if got, ok := impl.LeastWidth(c.list, c.n); !ok || got != c.want {
			t.Errorf("LeastWidth(%q, %d) = %d, %v, want %d", c.list, c.n, got, ok, c.want)
		}
	}
}

func TestLeastWidthOfOtherArguments(t *testing.T) {
	want := func(list []string, n int) {
		if got, ok := impl.LeastWidth(list, n); ok || got != 0 {
			t.Errorf("LeastWidth(%q, %d) = %d, %v", list, n, got, ok)
		}
	}
	for _, n := range []int{math.MinInt, -1, 0, impl.MaxWords + 1, 100, math.MaxInt} {
		want(nil, n)
		want([]string{"a"}, n)
		want([]string{"aaa", "bb", "cc", "ddddd"}, n)
	}
	for _, list := range notWords() {
		want(list, 1)
		want(list, impl.MaxWords)
	}
}

func TestPromise14LeastWidthsAreWideEnough(t *testing.T) {
	for _, list := range someWords() {
		for n := 1; n <= impl.MaxWords; n++ {
			width, ok := impl.LeastWidth(list, n)
			if !ok || width < 1 || width > impl.MaxText {
				t.Errorf("LeastWidth(%q, %d) = %d, %v", list, n, width, ok)
			}
			if lines, ok := impl.WrapWords(list, width); !ok || len(lines) > n {
				t.Errorf("LeastWidth(%q, %d) = %d, but WrapWords = %q, %v", list, n, width, lines, ok)
			}
			if lines, ok := impl.WrapWords(list, width-1); ok && len(lines) <= n {
				t.Errorf("LeastWidth(%q, %d) = %d, but one less is enough: %q", list, n, width, lines)
			}
		}
	}
}

// Promise 15.

func TestWaysOf(t *testing.T) {
	for _, c := range []struct {
		list        []string
		width, want int
	}{
		{nil, 1, 1},
		{[]string{}, impl.MaxText, 1},
		{[]string{"a"}, 1, 1},
		{[]string{"abc"}, 3, 1},
		{[]string{"abc"}, 2, 0},
		{[]string{"a", "b"}, 2, 1},
		{[]string{"a", "b"}, 3, 2},
		{[]string{"a", "abc"}, 2, 0},
		{[]string{"abc", "a"}, 2, 0},
		{[]string{"aaa", "bb", "cc", "ddddd"}, 4, 0},
		{[]string{"aaa", "bb", "cc", "ddddd"}, 5, 2},
		{[]string{"aaa", "bb", "cc", "ddddd"}, 6, 3},
		{[]string{"aaa", "bb", "cc", "ddddd"}, 14, 7},
		{[]string{"aaa", "bb", "cc", "ddddd"}, 15, 8},
		{repLines("a", impl.MaxWords), 1, 1},
		{repLines("a", impl.MaxWords), 3, 55},
		{repLines("a", impl.MaxWords), 16, 255},
		{repLines("a", impl.MaxWords), 17, 256},
		{repLines(longest, impl.MaxWords), impl.MaxWord - 1, 0},
		{repLines(longest, impl.MaxWords), impl.MaxWord, 1},
		{repLines(longest, impl.MaxWords), impl.MaxText, 256},
	} {
		if got := impl.WaysOf(c.list, c.width); got != c.want {
			t.Errorf("WaysOf(%q, %d) = %d, want %d", c.list, c.width, got, c.want)
		}
	}
}

func TestWaysOfOtherArguments(t *testing.T) {
	for _, width := range notWidths {
		for _, list := range [][]string{nil, {"a"}, {"a", "bb", "cccc"}} {
			if got := impl.WaysOf(list, width); got != -1 {
				t.Errorf("WaysOf(%q, %d) = %d, want -1", list, width, got)
			}
		}
	}
	for _, list := range notWords() {
		for _, width := range []int{1, 20, impl.MaxText} {
			if got := impl.WaysOf(list, width); got != -1 {
				t.Errorf("WaysOf(%q, %d) = %d, want -1", list, width, got)
			}
		}
	}
}

func TestPromise15WaysDoubleWithEachGap(t *testing.T) {
	forWords(func(list []string, width int) {
		n := impl.WaysOf(list, width)
		if _, ok := impl.WrapWords(list, width); ok != (n != 0) {
			t.Errorf("WaysOf(%q, %d) = %d, but WrapWords is %v", list, width, n, ok)
		}
		most := 1 << max(len(list)-1, 0)
		if n < 0 || n > most || (n == most) != (len(oneLine(list)) <= width) {
			t.Errorf("WaysOf(%q, %d) = %d of %d", list, width, n, most)
		}
		if want := len(waysFrom(list, width)); n != want {
			t.Errorf("WaysOf(%q, %d) = %d, want %d", list, width, n, want)
		}
	})
}

// Promise 16.

func TestJustifyWords(t *testing.T) {
	for _, c := range []struct {
		list  []string
		width int
		want  string
	}{
		{[]string{"a", "b"}, 3, "a b"},
		{[]string{"a", "b"}, 4, "a  b"},
		{[]string{"a", "b"}, impl.MaxText, "a" + rep(" ", 118) + "b"},
		{[]string{"a", "b", "c"}, 5, "a b c"},
		{[]string{"a", "b", "c"}, 6, "a  b c"},
		{[]string{"a", "b", "c"}, 7, "a  b  c"},
		{[]string{"a", "b", "c"}, 8, "a   b  c"},
		{[]string{"aaa", "bb", "cc", "ddddd"}, 15, "aaa bb cc ddddd"},
		{[]string{"aaa", "bb", "cc", "ddddd"}, 16, "aaa  bb cc ddddd"},
		{[]string{"aaa", "bb", "cc", "ddddd"}, 17, "aaa  bb  cc ddddd"},
		{[]string{"aaa", "bb", "cc", "ddddd"}, 18, "aaa  bb  cc  ddddd"},
		{[]string{"aaa", "bb", "cc", "ddddd"}, 20, "aaa   bb   cc  ddddd"},
		{repLines(longest, impl.MaxWords), 116, oneLine(repLines(longest, impl.MaxWords))},
		{repLines(longest, impl.MaxWords), 117, longest + "  " + oneLine(repLines(longest, impl.MaxWords-1))},
		{repLines("a", impl.MaxWords), 17, "a a a a a a a a a"},
		{repLines("a", impl.MaxWords), 24, "a  a  a  a  a  a  a  a a"},
	} {
		if got, ok := impl.JustifyWords(c.list, c.width); !ok || got != c.want {
			t.Errorf("JustifyWords(%q, %d) = %q, %v, want %q", c.list, c.width, got, ok, c.want)
		}
	}
}

func TestJustifyWordsOfOtherArguments(t *testing.T) {
	want := func(list []string, width int) {
		if got, ok := impl.JustifyWords(list, width); ok || got != "" {
			t.Errorf("JustifyWords(%q, %d) = %q, %v", list, width, got, ok)
		}
	}
	for _, width := range notWidths {
		want(nil, width)
		want([]string{"a"}, width)
		want([]string{"a", "b"}, width)
	}
	for _, list := range notWords() {
		want(list, 20)
		want(list, impl.MaxText)
	}
	for _, width := range []int{1, 2, 5, impl.MaxText} {
		want(nil, width)
		want([]string{"a"}, width)
		want([]string{"abcde"}, width)
	}
	for width := 1; width < 15; width++ {
		want([]string{"aaa", "bb", "cc", "ddddd"}, width)
	}
	want(repLines(longest, impl.MaxWords), 115)
	want([]string{"a", "b"}, 2)
}

// gapsOf returns the numbers of spaces between the words of a line.
func gapsOf(line string) []int {
	var gaps []int
	n := 0
	for i := range len(line) {
		if line[i] == ' ' {
			n++
		} else if n > 0 {
			gaps = append(gaps, n)
			n = 0
		}
	}
	return gaps
}

func TestPromise16JustifiedLinesAreAsLongAsTheWidth(t *testing.T) {
	forWords(func(list []string, width int) {
		line, ok := impl.JustifyWords(list, width)
		if ok != (len(list) > 1 && len(oneLine(list)) <= width) {
			t.Errorf("JustifyWords(%q, %d) = %q, %v", list, width, line, ok)
		}
		if !ok {
			return
		}
		if len(line) != width || strings.Trim(line, " ") != line {
			t.Errorf("JustifyWords(%q, %d) = %q", list, width, line)
		}
		wantList(t, fmt.Sprintf("words of %q", line), impl.WordsOf(line), list)
		gaps := gapsOf(line)
		for i, gap := range gaps {
			if gap > gaps[0] || gap < gaps[0]-1 || i > 0 && gap > gaps[i-1] {
				t.Errorf("JustifyWords(%q, %d) = %q has gaps %v", list, width, line, gaps)
			}
		}
	})
}

// The general conventions.

func TestWordsAreNotChanged(t *testing.T) {
	room := []string{"aaa", "bb", "cc", "ddddd", "behind"}
	list := room[:4]
	for _, call := range []func() []string{
		func() []string { l, _ := impl.WrapWords(list, 6); return l },
		func() []string { l, _ := impl.WrapWords(list, 5); return l },
		func() []string { l, _ := impl.EvenWrap(list, 6); return l },
		func() []string { l, _ := impl.EvenWrap(list, 5); return l },
		func() []string { s, _ := impl.JustifyWords(list, 20); return []string{s} },
		func() []string {
			impl.ValidWords(list)
			impl.LeastWidth(list, 2)
			return []string{fmt.Sprint(impl.WaysOf(list, 6), impl.CostOf(list, 6))}
		},
	} {
		first := call()
		kept := slices.Clone(first)
		for i := range first {
			first[i] = "changed"
		}
		_ = append(first, "changed")
		wantList(t, "the words", room, []string{"aaa", "bb", "cc", "ddddd", "behind"})
		wantList(t, "the second result", call(), kept)
	}
}

func TestWordsOfOneLengthAreNotShared(t *testing.T) {
	list := repLines("abc", 4)
	for _, wrap := range []func([]string, int) ([]string, bool){impl.WrapWords, impl.EvenWrap} {
		lines, ok := wrap(list, 3)
		if !ok {
			t.Fatal("the words fit")
		}
		lines[0] = "changed"
		wantList(t, "the words", list, repLines("abc", 4))
	}
}
