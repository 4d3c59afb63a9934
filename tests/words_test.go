package tests

import (
	"fmt"
	"math"
	"slices"
	"strings"
	"testing"

	"loop.example/textsinlines/impl"
)

// allHows are the ways to pad texts.
var allHows = []string{"left", "right", "middle"}

func TestLimitsOfWords(t *testing.T) {
	if impl.MaxText != 120 || impl.MaxLines != 20 || impl.MaxTab != 12 || impl.MaxIndent != 10 {
		t.Errorf("limits = %d, %d, %d, %d", impl.MaxText, impl.MaxLines, impl.MaxTab, impl.MaxIndent)
	}
}

// Promise 1.

func TestValidText(t *testing.T) {
	for _, s := range someTexts() {
		if !impl.ValidText(s) {
			t.Errorf("ValidText(%q) = false", s)
		}
	}
	for _, s := range notTexts() {
		if impl.ValidText(s) {
			t.Errorf("ValidText(%q) = true", s)
		}
	}
}

func TestPromise1TextsCanBeCut(t *testing.T) {
	for _, s := range someTexts() {
		for impl.ValidText(s) && s != "" {
			if s = s[1:]; !impl.ValidText(s) {
				t.Errorf("ValidText(%q) = false, but it was true with a byte ahead", s)
			}
		}
		if s != "" {
			t.Errorf("%q was not cut to the end", s)
		}
	}
}

// Promise 2.

func TestWordsOf(t *testing.T) {
	for _, c := range []struct {
		s    string
		want []string
	}{
		{"", nil},
		{" ", nil},
		{"     ", nil},
		{rep(" ", impl.MaxText), nil},
		{"a", []string{"a"}},
		{"ab cd", []string{"ab", "cd"}},
		{"  ab   cd  ", []string{"ab", "cd"}},
		{" a", []string{"a"}},
		{"a ", []string{"a"}},
		{"one, two. (three)", []string{"one,", "two.", "(three)"}},
		{"b a b", []string{"b", "a", "b"}},
		{rep("x", impl.MaxText), []string{rep("x", impl.MaxText)}},
		{rep("x ", impl.MaxText/2), repLines("x", impl.MaxText/2)},
		{allPlain(), []string{allPlain()[1:]}},
	} {
		wantList(t, fmt.Sprintf("WordsOf(%q)", c.s), impl.WordsOf(c.s), c.want)
	}
	for _, s := range notTexts() {
		wantList(t, fmt.Sprintf("WordsOf(%q)", s), impl.WordsOf(s), nil)
	}
}

func TestPromise2WordsHaveNoSpaces(t *testing.T) {
	for _, s := range someTexts() {
		words := impl.WordsOf(s)
		for _, w := range words {
			if w == "" || strings.Contains(w, " ") {
				t.Errorf("WordsOf(%q) has %q", s, w)
			}
		}
		wantList(t, fmt.Sprintf("WordsOf(%q)", s), words, strings.Fields(s))
		wantList(t, fmt.Sprintf("WordsOf the words of %q", s), impl.WordsOf(strings.Join(words, " ")), words)
	}
}

// Promise 3.

func TestFoldText(t *testing.T) {
	for _, c := range []struct{ s, want string }{
		{"", ""},
		{"   ", ""},
		{"a", "a"},
		{"  a  ", "a"},
		{"  a line   of words ", "a line of words"},
		{"a b", "a b"},
		{rep(" ", impl.MaxText-1) + "x", "x"},
		{rep("x", impl.MaxText), rep("x", impl.MaxText)},
		{rep(" ", impl.MaxText), ""},
		{"x" + rep(" ", impl.MaxText-2) + "y", "x y"},
	} {
		wantText(t, fmt.Sprintf("FoldText(%q)", c.s), impl.FoldText(c.s), c.want)
	}
	for _, s := range notTexts() {
		wantText(t, fmt.Sprintf("FoldText(%q)", s), impl.FoldText(s), "")
	}
}

func TestPromise3FoldedTextsStay(t *testing.T) {
	for _, s := range someTexts() {
		fold := impl.FoldText(s)
		wantText(t, fmt.Sprintf("FoldText of %q", fold), impl.FoldText(fold), fold)
		wantList(t, fmt.Sprintf("words of the folded %q", s), impl.WordsOf(fold), impl.WordsOf(s))
		if strings.HasPrefix(fold, " ") || strings.HasSuffix(fold, " ") || strings.Contains(fold, "  ") {
			t.Errorf("FoldText(%q) = %q has spaces at an end, or side by side", s, fold)
		}
	}
}

// Promise 4.

func TestExpandTabs(t *testing.T) {
	for _, c := range []struct {
		s     string
		width int
		want  string
	}{
		{"", 1, ""},
		{"", 8, ""},
		{"\t", 1, " "},
		{"\t", 12, rep(" ", 12)},
		{"\t\t", 5, rep(" ", 10)},
		{"a\tb", 4, "a   b"},
		{"abc\td", 4, "abc d"},
		{"abcd\te", 4, "abcd    e"},
		{"abcde\tf", 4, "abcde   f"},
		{"a\tb", 1, "a b"},
		{"ab\tcd\t", 3, "ab cd "},
		{"a\tb\tc", 4, "a   b   c"},
		{"a \tb", 4, "a   b"},
		{"no tabs  here", 4, "no tabs  here"},
		{"~\t ", 2, "~  "},
		{rep("\t", impl.MaxText), 1, rep(" ", impl.MaxText)},
		{rep("\t", impl.MaxText), impl.MaxTab, rep(" ", impl.MaxText*impl.MaxTab)},
		{rep("a\t", impl.MaxText/2), 12, rep("a           ", impl.MaxText/2)},
		{rep("a", impl.MaxText-1) + "\t", 7, rep("a", impl.MaxText-1) + rep(" ", 7)},
		{allPlain() + "\t", 12, allPlain() + " "},
	} {
		wantText(t, fmt.Sprintf("ExpandTabs(%q, %d)", c.s, c.width), impl.ExpandTabs(c.s, c.width), c.want)
	}
}

func TestExpandTabsOfOtherArguments(t *testing.T) {
	for _, width := range []int{math.MinInt, -4, -1, 0, impl.MaxTab + 1, 100, math.MaxInt} {
		for _, s := range []string{"a\tb", "\t", "ab"} {
			wantText(t, fmt.Sprintf("ExpandTabs(%q, %d)", s, width), impl.ExpandTabs(s, width), "")
		}
	}
	for _, s := range append(notTexts(), rep("\t", impl.MaxText+1), "a\tb\n", "\t\xff") {
		if len(s) <= impl.MaxText && impl.ValidText(strings.ReplaceAll(s, "\t", " ")) {
			continue
		}
		wantText(t, fmt.Sprintf("ExpandTabs(%q, 4)", s), impl.ExpandTabs(s, 4), "")
	}
}

func TestPromise4ExpandedTextsHaveNoTabs(t *testing.T) {
	for _, s := range append(textsOver("a \t", 6), rep("\t", impl.MaxText-1), rep("ab\t", impl.MaxText/3-1)) {
		for width := 1; width <= impl.MaxTab; width++ {
			out := impl.ExpandTabs(s, width)
			if strings.Contains(out, "\t") || strings.ReplaceAll(out, " ", "") != strings.NewReplacer(" ", "", "\t", "").Replace(s) {
				t.Errorf("ExpandTabs(%q, %d) = %q", s, width, out)
			}
			more := impl.ExpandTabs(s+"\t", width)
			gap := len(more) - len(out)
			if len(more)%width != 0 || gap < 1 || gap > width || more != out+rep(" ", gap) {
				t.Errorf("ExpandTabs(%q, %d) = %q, but with a tab behind %q", s, width, out, more)
			}
		}
	}
}

// Promise 5.

func TestTabText(t *testing.T) {
	for _, c := range []struct {
		s     string
		width int
		want  string
	}{
		{"", 4, ""},
		{"    ", 4, "\t"},
		{"   ", 4, "   "},
		{"     ", 4, "\t "},
		{"a   b", 4, "a\tb"},
		{"ab  c", 4, "ab\tc"},
		{"abc d", 4, "abc d"},
		{"abc  d", 4, "abc  d"},
		{"abc     d", 4, "abc \td"},
		{"a    b", 4, "a\t b"},
		{"a       b", 4, "a\t\tb"},
		{"        x", 4, "\t\tx"},
		{"ab  ", 4, "ab\t"},
		{"ab ", 4, "ab "},
		{"abcd    ", 4, "abcd\t"},
		{"abcd  ", 4, "abcd  "},
		{"ab  cd  ", 4, "ab\tcd\t"},
		{"a b c d ", 2, "a b c d "},
		{"  a   b", 2, "\ta \tb"},
		{"no spaces at stops", 5, "no spaces at stops"},
		{rep(" ", impl.MaxText), impl.MaxTab, rep("\t", impl.MaxText/impl.MaxTab)},
		{rep(" ", impl.MaxText), 2, rep("\t", impl.MaxText/2)},
		{rep(" ", impl.MaxText), 7, rep("\t", 17) + " "},
		{rep("x", impl.MaxText), 2, rep("x", impl.MaxText)},
	} {
		wantText(t, fmt.Sprintf("TabText(%q, %d)", c.s, c.width), impl.TabText(c.s, c.width), c.want)
	}
}

func TestTabTextOfOtherArguments(t *testing.T) {
	for _, width := range []int{math.MinInt, -2, -1, 0, 1, impl.MaxTab + 1, 100, math.MaxInt} {
		for _, s := range []string{"a   b", "ab", "    "} {
			wantText(t, fmt.Sprintf("TabText(%q, %d)", s, width), impl.TabText(s, width), "")
		}
	}
	for _, s := range append(notTexts(), "a\tb", "\t") {
		wantText(t, fmt.Sprintf("TabText(%q, 4)", s), impl.TabText(s, 4), "")
	}
}

// tabsByPlaces returns the text with tabs, told from the last byte to the first one: at each multiple, the longest row of spaces that reaches back no further than the multiple ahead.
func tabsByPlaces(s string, width int) string {
	out := ""
	for end := len(s); end > 0; {
		begin := end
		for end%width == 0 && begin > end-width && s[begin-1] == ' ' {
			begin--
		}
		if end-begin >= 2 {
			out = "\t" + out
			end = begin
		} else {
			end--
			out = s[end:end+1] + out
		}
	}
	return out
}

func TestPromise5TabsAreExpandedBack(t *testing.T) {
	for _, s := range append(someTexts(), textsOver("a ", 11)...) {
		for width := 2; width <= impl.MaxTab; width++ {
			tabs := impl.TabText(s, width)
			wantText(t, fmt.Sprintf("ExpandTabs of %q, %d", tabs, width), impl.ExpandTabs(tabs, width), s)
			wantText(t, fmt.Sprintf("TabText(%q, %d)", s, width), tabs, tabsByPlaces(s, width))
		}
	}
}

// Promise 6.

func TestMarginOf(t *testing.T) {
	for _, c := range []struct {
		lines []string
		want  int
	}{
		{nil, 0},
		{[]string{}, 0},
		{[]string{""}, 0},
		{[]string{"   "}, 0},
		{[]string{"", " ", "  "}, 0},
		{[]string{"a"}, 0},
		{[]string{"  a"}, 2},
		{[]string{"a  "}, 0},
		{[]string{"   a", "  b", "    c"}, 2},
		{[]string{"  a", "b"}, 0},
		{[]string{" ", "   a", "", "  ", "   b"}, 3},
		{[]string{rep(" ", impl.MaxText-1) + "x", rep(" ", impl.MaxText)}, impl.MaxText - 1},
		{append(repLines("    a", impl.MaxLines-1), " b"), 1},
		{append([]string{" b"}, repLines("    a", impl.MaxLines-1)...), 1},
	} {
		if n := impl.MarginOf(c.lines); n != c.want {
			t.Errorf("MarginOf(%q) = %d, want %d", c.lines, n, c.want)
		}
	}
	for _, lines := range notLists() {
		if n := impl.MarginOf(lines); n != -1 {
			t.Errorf("MarginOf(%q) = %d, want -1", lines, n)
		}
	}
}

func TestDedentLines(t *testing.T) {
	for _, c := range []struct{ lines, want []string }{
		{nil, nil},
		{[]string{""}, []string{""}},
		{[]string{"   ", ""}, []string{"", ""}},
		{[]string{"  a", "    b ", "   ", "", " "}, []string{"a", "  b ", "", "", ""}},
		{[]string{"a", "  b", "   "}, []string{"a", "  b", ""}},
		{[]string{"   a   b   "}, []string{"a   b   "}},
		{[]string{rep(" ", impl.MaxText-1) + "x", rep(" ", impl.MaxText)}, []string{"x", ""}},
		{repLines("  a", impl.MaxLines), repLines("a", impl.MaxLines)},
		{repLines(" ", impl.MaxLines), repLines("", impl.MaxLines)},
	} {
		wantList(t, fmt.Sprintf("DedentLines(%q)", c.lines), impl.DedentLines(c.lines), c.want)
	}
	for _, lines := range notLists() {
		wantList(t, fmt.Sprintf("DedentLines(%q)", lines), impl.DedentLines(lines), nil)
	}
}

func TestPromise6MarginsAreTakenOffOnce(t *testing.T) {
	for _, lines := range someLists() {
		out := impl.DedentLines(lines)
		if len(out) != len(lines) || impl.MarginOf(out) != 0 {
			t.Errorf("MarginOf(%q) = %d", out, impl.MarginOf(out))
		}
		wantList(t, fmt.Sprintf("DedentLines(%q)", out), impl.DedentLines(out), out)
	}
}

// Promises 7 and 8.

func TestIndentLines(t *testing.T) {
	for _, c := range []struct {
		lines []string
		n     int
		want  []string
	}{
		{nil, 0, nil},
		{nil, impl.MaxIndent, nil},
		{[]string{"", " ", "    "}, 3, []string{"", "", ""}},
		{[]string{"a", " ", " b"}, 2, []string{"  a", "", "   b"}},
		{[]string{"a ", "   ", ""}, 0, []string{"a ", "", ""}},
		{[]string{"a"}, impl.MaxIndent, []string{rep(" ", 10) + "a"}},
		{[]string{rep("a", impl.MaxText)}, 0, []string{rep("a", impl.MaxText)}},
		{[]string{rep("a", 117)}, 3, []string{"   " + rep("a", 117)}},
		{[]string{rep(" ", impl.MaxText), "b"}, 1, []string{"", " b"}},
		{repLines("a", impl.MaxLines), 1, repLines(" a", impl.MaxLines)},
	} {
		got, ok := impl.IndentLines(c.lines, c.n)
		if !ok {
			t.Errorf("IndentLines(%q, %d) is false", c.lines, c.n)
		}
		wantList(t, fmt.Sprintf("IndentLines(%q, %d)", c.lines, c.n), got, c.want)
	}
}

// wantNoIndent reports lines that are indented, but must not be.
func wantNoIndent(t *testing.T, lines []string, n int) {
	t.Helper()
	if got, ok := impl.IndentLines(lines, n); ok || len(got) != 0 {
		t.Errorf("IndentLines(%q, %d) = %q, %v", lines, n, got, ok)
	}
}

func TestIndentLinesOfOtherArguments(t *testing.T) {
	for _, n := range []int{math.MinInt, -1, impl.MaxIndent + 1, 100, math.MaxInt} {
		wantNoIndent(t, nil, n)
		wantNoIndent(t, []string{"a"}, n)
		wantNoIndent(t, []string{""}, n)
		wantNoIndent(t, []string{"    a"}, n)
	}
	for _, lines := range notLists() {
		wantNoIndent(t, lines, 0)
		wantNoIndent(t, lines, 2)
	}
	wantNoIndent(t, []string{rep("a", impl.MaxText)}, 1)
	wantNoIndent(t, []string{"a", rep("a", 118)}, 3)
	wantNoIndent(t, []string{rep(" ", impl.MaxText-1) + "a", "b"}, 1)
	wantNoIndent(t, []string{rep("a", 111)}, impl.MaxIndent)
}

// withoutBlanks returns the lines with "" for those without words.
func withoutBlanks(lines []string) []string {
	out := slices.Clone(lines)
	for i, line := range out {
		if strings.Trim(line, " ") == "" {
			out[i] = ""
		}
	}
	return out
}

func TestPromise7WhatIsTakenOffCanBePutOn(t *testing.T) {
	tried := 0
	for _, lines := range someLists() {
		n := impl.MarginOf(lines)
		back, ok := impl.IndentLines(impl.DedentLines(lines), n)
		if n > impl.MaxIndent {
			if ok || len(back) != 0 {
				t.Errorf("IndentLines by %d = %q, %v", n, back, ok)
			}
			continue
		}
		tried++
		if !ok {
			t.Errorf("IndentLines of DedentLines(%q) is false", lines)
		}
		wantList(t, fmt.Sprintf("IndentLines of DedentLines(%q)", lines), back, withoutBlanks(lines))
	}
	if tried < 1000 {
		t.Errorf("only %d lists were tried", tried)
	}
}

func TestPromise8WhatIsPutOnCanBeTakenOff(t *testing.T) {
	tried := 0
	for _, lines := range someLists() {
		for n := 0; n <= impl.MaxIndent; n++ {
			more, ok := impl.IndentLines(lines, n)
			if !ok {
				continue
			}
			tried++
			wantList(t, fmt.Sprintf("DedentLines(%q)", more), impl.DedentLines(more), impl.DedentLines(lines))
		}
	}
	if tried < 10000 {
		t.Errorf("only %d lists were indented", tried)
	}
}

// Promise 9.

func TestPadText(t *testing.T) {
	for _, c := range []struct {
		s     string
		width int
		how   string
		want  string
	}{
		{"", 0, "left", ""},
		{"", 3, "left", "   "},
		{"", 3, "right", "   "},
		{"", 3, "middle", "   "},
		{"ab", 5, "left", "ab   "},
		{"ab", 5, "right", "   ab"},
		{"ab", 5, "middle", " ab  "},
		{"ab", 6, "middle", "  ab  "},
		{"ab", 3, "middle", "ab "},
		{"ab", 2, "middle", "ab"},
		{"abc", 2, "left", "abc"},
		{"abc", 0, "right", "abc"},
		{"abc", 1, "middle", "abc"},
		{" a ", 5, "right", "   a "},
		{"a", impl.MaxText, "left", "a" + rep(" ", 119)},
		{"a", impl.MaxText, "right", rep(" ", 119) + "a"},
		{"a", impl.MaxText, "middle", rep(" ", 59) + "a" + rep(" ", 60)},
		{rep("a", impl.MaxText), impl.MaxText, "left", rep("a", impl.MaxText)},
		{rep("a", impl.MaxText), 0, "middle", rep("a", impl.MaxText)},
	} {
		wantText(t, fmt.Sprintf("PadText(%q, %d, %q)", c.s, c.width, c.how), impl.PadText(c.s, c.width, c.how), c.want)
	}
}

func TestPadTextOfOtherArguments(t *testing.T) {
	for _, how := range []string{"", "Left", "LEFT", "left ", " right", "center", "mid", "middle\n", "lef", "leftright"} {
		wantText(t, fmt.Sprintf("PadText by %q", how), impl.PadText("ab", 5, how), "")
		wantText(t, fmt.Sprintf("PadText of a wide text by %q", how), impl.PadText("abcdef", 5, how), "")
	}
	for _, how := range allHows {
		for _, width := range []int{math.MinInt, -1, impl.MaxText + 1, math.MaxInt} {
			wantText(t, fmt.Sprintf("PadText to %d by %q", width, how), impl.PadText("ab", width, how), "")
		}
		for _, s := range notTexts() {
			wantText(t, fmt.Sprintf("PadText(%q) by %q", s, how), impl.PadText(s, 5, how), "")
			wantText(t, fmt.Sprintf("PadText(%q) by %q", s, how), impl.PadText(s, 0, how), "")
		}
	}
}

func TestPromise9PaddedTextsAreWide(t *testing.T) {
	for _, s := range someTexts() {
		for _, width := range []int{0, 1, 2, 3, 5, 6, 9, 60, 119, 120} {
			for _, how := range allHows {
				out := impl.PadText(s, width, how)
				if len(out) != max(len(s), width) || !strings.Contains(out, s) {
					t.Errorf("PadText(%q, %d, %q) = %q", s, width, how, out)
				}
				wantList(t, fmt.Sprintf("words of %q", out), impl.WordsOf(out), impl.WordsOf(s))
			}
		}
	}
}

// The general conventions.

func TestLinesAreNotChanged(t *testing.T) {
	room := []string{"  a", "   ", " b", "behind"}
	lines := room[:3]
	for _, call := range []func() []string{
		func() []string { return impl.DedentLines(lines) },
		func() []string { l, _ := impl.IndentLines(lines, 2); return l },
		func() []string { l, _ := impl.IndentLines(lines, 0); return l },
		func() []string { impl.MarginOf(lines); return impl.WordsOf(" a b  c ") },
	} {
		first := call()
		kept := slices.Clone(first)
		for i := range first {
			first[i] = "changed"
		}
		_ = append(first[:0], "changed", "changed", "changed")
		_ = append(first, "changed")
		wantList(t, "the lines", room, []string{"  a", "   ", " b", "behind"})
		wantList(t, "the second result", call(), kept)
	}
}
