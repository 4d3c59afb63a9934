package tests

import (
	"fmt"
	"math"
	"slices"
	"strings"
	"testing"

	"loop.example/textsinlines/impl"
)

// notIndents are numbers of spaces that cannot stand ahead of lines.
var notIndents = []int{math.MinInt, -2, -1, impl.MaxIndent + 1, 100, math.MaxInt}

// someIndents are numbers of spaces that can stand ahead of lines, with their limits.
var someIndents = []int{0, 1, 2, 5, impl.MaxIndent - 1, impl.MaxIndent}

// full is a text as long as one can be.
var full = rep("x", impl.MaxText)

// areTexts reports whether all lines are texts.
func areTexts(lines []string) bool {
	return !slices.ContainsFunc(lines, func(line string) bool { return !impl.ValidText(line) })
}

// Promise 17.

func TestFillWords(t *testing.T) {
	list := []string{"one", "two", "three"}
	for _, c := range []struct {
		list               []string
		width, first, rest int
		want               []string
	}{
		{nil, 1, 0, 0, nil},
		{[]string{}, impl.MaxText, 10, 10, nil},
		{nil, 1, 10, 10, nil},
		{list, 9, 2, 1, []string{"  one two", " three"}},
		{list, 8, 2, 1, []string{"  one", " two", " three"}},
		{list, 8, 2, 3, []string{"  one", "   two", "   three"}},
		{list, 7, 0, 2, []string{"one two", "  three"}},
		{list, 7, 1, 2, []string{" one", "  two", "  three"}},
		{list, 13, 0, 0, []string{"one two three"}},
		{list, 14, 1, 10, []string{" one two three"}},
		{list, 15, 10, 0, []string{"          one", "two three"}},
		{list, 13, 10, 0, []string{"          one", "two three"}},
		{list, 9, 6, 0, []string{"      one", "two three"}},
		{[]string{"a"}, 11, 10, 10, []string{"          a"}},
		{[]string{"a"}, 1, 0, 10, []string{"a"}},
		{[]string{"a", "b"}, 3, 0, 10, []string{"a b"}},
		{[]string{"a", "b"}, 11, 9, 10, []string{"         a", "          b"}},
		{[]string{longest, longest}, 22, 10, 10, []string{"          " + longest, "          " + longest}},
		{repLines(longest, impl.MaxWords), impl.MaxText, 4, 10, []string{"    " + oneLine(repLines(longest, impl.MaxWords))}},
		{repLines(longest, impl.MaxWords), impl.MaxText, 5, 10, []string{"     " + oneLine(repLines(longest, impl.MaxWords-1)), "          " + longest}},
		{repLines("a", impl.MaxWords), 4, 2, 1, []string{"  a", " a a", " a a", " a a", " a a"}},
	} {
		got, ok := impl.FillWords(c.list, c.width, c.first, c.rest)
		wantTrue(t, fmt.Sprintf("FillWords(%q, %d, %d, %d)", c.list, c.width, c.first, c.rest), got, ok, c.want)
	}
}

// wantNoFill reports filled lines that are there, but must not be.
func wantNoFill(t *testing.T, list []string, width, first, rest int) {
	t.Helper()
	got, ok := impl.FillWords(list, width, first, rest)
	wantFalse(t, fmt.Sprintf("FillWords(%q, %d, %d, %d)", list, width, first, rest), got, ok)
}

func TestFillWordsOfOtherArguments(t *testing.T) {
	lists := [][]string{nil, {"a"}, {"a", "bb", "cccc"}}
	for _, list := range lists {
		for _, width := range notWidths {
			wantNoFill(t, list, width, 0, 0)
			wantNoFill(t, list, width, 2, 1)
		}
		for _, n := range notIndents {
			wantNoFill(t, list, 20, n, 0)
			wantNoFill(t, list, 20, 0, n)
			wantNoFill(t, list, impl.MaxText, n, n)
		}
	}
	for _, list := range notWords() {
		wantNoFill(t, list, impl.MaxText, 0, 0)
		wantNoFill(t, list, 20, 1, 2)
	}
}

func TestFillWordsThatDoNotFitWhereTheyStand(t *testing.T) {
	list := []string{"one", "two", "three"}
	wantNoFill(t, list, 5, 0, 1)
	wantNoFill(t, list, 5, 3, 0)
	wantNoFill(t, list, 9, 7, 0)
	wantNoFill(t, list, 4, 0, 0)
	wantNoFill(t, list, 9, 0, 5)
	wantNoFill(t, []string{"a"}, 10, 10, 0)
	wantNoFill(t, []string{"a"}, 1, 1, 0)
	wantNoFill(t, []string{"a", "b"}, 2, 0, 2)
	wantNoFill(t, []string{"a", "b"}, 2, 0, 10)
	wantNoFill(t, []string{longest, longest}, 21, 10, 9)
	wantNoFill(t, []string{longest, longest}, 21, 9, 10)
	wantNoFill(t, []string{longest}, impl.MaxWord-1, 0, 0)
}

// filled returns what FillWords must be: each word behind the line above it, if it fits there.
func filled(list []string, width, first, rest int) ([]string, bool) {
	var lines []string
	for i, word := range list {
		if i > 0 && len(lines[len(lines)-1]+" "+word) <= width {
			lines[len(lines)-1] += " " + word
			continue
		}
		line := rep(" ", rest) + word
		if i == 0 {
			line = rep(" ", first) + word
		}
		if len(line) > width {
			return nil, false
		}
		lines = append(lines, line)
	}
	return lines, true
}

func TestPromise17FilledLinesHaveTheirSpaces(t *testing.T) {
	forWords(func(list []string, width int) {
		for _, first := range someIndents {
			for _, rest := range someIndents {
				what := fmt.Sprintf("FillWords(%q, %d, %d, %d)", list, width, first, rest)
				got, ok := impl.FillWords(list, width, first, rest)
				want, fits := filled(list, width, first, rest)
				if ok != fits {
					t.Errorf("%s = %q, %v", what, got, ok)
				}
				wantList(t, what, got, want)
				wantSpaces(t, what, got, width, first, rest)
				if ok {
					wantList(t, what+" in words", strings.Fields(oneLine(got)), list)
				}
			}
		}
	})
}

// wantSpaces reports lines that are longer than the width, or have other spaces ahead than first and rest.
func wantSpaces(t *testing.T, what string, lines []string, width, first, rest int) {
	t.Helper()
	for i, line := range lines {
		ahead := rest
		if i == 0 {
			ahead = first
		}
		if len(line) > width || len(line)-len(strings.TrimLeft(line, " ")) != ahead || strings.HasSuffix(line, " ") {
			t.Errorf("%s has %q", what, line)
		}
	}
}

func TestPromise17WithoutSpacesItIsWrapWords(t *testing.T) {
	forWords(func(list []string, width int) {
		want, fits := impl.WrapWords(list, width)
		got, ok := impl.FillWords(list, width, 0, 0)
		if ok != fits {
			t.Errorf("FillWords(%q, %d, 0, 0) = %v", list, width, ok)
		}
		wantList(t, fmt.Sprintf("FillWords(%q, %d, 0, 0)", list, width), got, want)
		for _, n := range someIndents {
			if width+n > impl.MaxText {
				continue
			}
			got, ok := impl.FillWords(list, width+n, n, n)
			if ok != fits {
				t.Errorf("FillWords(%q, %d, %d, %d) = %v", list, width+n, n, n, ok)
			}
			for i := range got {
				got[i] = got[i][n:]
			}
			wantList(t, fmt.Sprintf("FillWords(%q, %d, %d, %d) without spaces", list, width+n, n, n), got, want)
		}
	})
}

// Promise 18.

func TestShortenText(t *testing.T) {
	for _, c := range []struct {
		s     string
		width int
		sign  string
		want  string
	}{
		{"", 0, "", ""},
		{"", 0, "...", ""},
		{"   ", 0, "...", ""},
		{"   ", 2, full, ""},
		{"one two  three", 13, "...", "one two three"},
		{"  one   two  three  ", 13, full, "one two three"},
		{"one two three", impl.MaxText, full, "one two three"},
		{"one two three", 12, "...", "one two..."},
		{"one two three", 10, "...", "one two..."},
		{"  one   two  three  ", 10, "...", "one two..."},
		{"one two three", 9, "...", "one..."},
		{"one two three", 6, "...", "one..."},
		{"one two three", 5, "...", "..."},
		{"one two three", 3, "...", "..."},
		{"one two three", 12, "", "one two"},
		{"one two three", 7, "", "one two"},
		{"one two", 3, "", "one"},
		{"one two", 2, "", ""},
		{"one two", 0, "", ""},
		{"one two three", 10, " ..", "one two .."},
		{"one two three", 9, " ..", "one .."},
		{"a b", 2, "+", "a+"},
		{"a b", 1, "+", "+"},
		{"a b", 2, "++", "++"},
		{"a thirteen-byte word", 16, "~", "a thirteen-byte~"},
		{"a thirteen-byte word", 15, "~", "a~"},
		{full, impl.MaxText, "...", full},
		{full, impl.MaxText - 1, "...", "..."},
		{full, impl.MaxText - 1, full[1:], full[1:]},
		{rep("a ", 60), impl.MaxText - 1, "...", rep("a ", 59) + "a"},
		{rep("a ", 60), impl.MaxText - 2, "...", rep("a ", 57) + "a..."},
		{rep("a ", 60), 5, "+", "a a+"},
	} {
		got, ok := impl.ShortenText(c.s, c.width, c.sign)
		if !ok || got != c.want {
			t.Errorf("ShortenText(%q, %d, %q) = %q, %v, want %q", c.s, c.width, c.sign, got, ok, c.want)
		}
	}
}

// wantNotShort reports a shortened text that is there, but must not be.
func wantNotShort(t *testing.T, s string, width int, sign string) {
	t.Helper()
	if got, ok := impl.ShortenText(s, width, sign); ok || got != "" {
		t.Errorf("ShortenText(%q, %d, %q) = %q, %v", s, width, sign, got, ok)
	}
}

func TestShortenTextWithSignsLongerThanTheWidth(t *testing.T) {
	wantNotShort(t, "one two", 2, "...")
	wantNotShort(t, "one two", 6, " (more)")
	wantNotShort(t, "one two", 0, "+")
	wantNotShort(t, "one two", 0, " ")
	wantNotShort(t, full, impl.MaxText-1, full)
	wantNotShort(t, rep("a ", 60), impl.MaxText-2, full[1:])
}

func TestShortenTextOfOtherArguments(t *testing.T) {
	for _, width := range []int{math.MinInt, -100, -1, impl.MaxText + 1, 1000, math.MaxInt} {
		for _, s := range []string{"", "a", "one two"} {
			wantNotShort(t, s, width, "...")
			wantNotShort(t, s, width, "")
		}
	}
	for _, bad := range notTexts() {
		for _, width := range []int{0, 3, impl.MaxText} {
			wantNotShort(t, bad, width, "...")
			wantNotShort(t, bad, width, "")
			// The sign must be a text where it is not needed, too.
			wantNotShort(t, "", width, bad)
			wantNotShort(t, "one two", width, bad)
		}
	}
}

// someSigns are signs of many lengths, with spaces, and the longest one.
var someSigns = []string{"", "~", "...", " ", " ..", ".. ", "a", "(more)", full[1:], full}

func TestPromise18ShortenedTextsFit(t *testing.T) {
	for _, s := range someTexts() {
		for _, width := range append(someWidths, 0) {
			for _, sign := range someSigns {
				wantShort(t, s, width, sign)
			}
		}
	}
}

// wantShort reports a shortened text that is not the folded one, nor as many words as fit with the sign.
func wantShort(t *testing.T, s string, width int, sign string) {
	t.Helper()
	got, ok := impl.ShortenText(s, width, sign)
	folded := impl.FoldText(s)
	if ok != (len(folded) <= width || len(sign) <= width) || len(got) > max(width, 0) {
		t.Errorf("ShortenText(%q, %d, %q) = %q, %v", s, width, sign, got, ok)
	}
	if len(folded) <= width {
		wantText(t, fmt.Sprintf("ShortenText(%q, %d, %q)", s, width, sign), got, folded)
		return
	}
	want := ""
	if ok {
		want = sign
	}
	words := strings.Fields(s)
	for n := range words {
		if most := oneLine(words[:n+1]) + sign; len(most) <= width {
			want = most
		}
	}
	wantText(t, fmt.Sprintf("ShortenText(%q, %d, %q)", s, width, sign), got, want)
}

// Promise 19.

func TestUnquoteLine(t *testing.T) {
	for _, c := range []struct {
		line string
		n    int
		rest string
	}{
		{"", 0, ""},
		{" ", 0, " "},
		{"  ", 0, "  "},
		{"a", 0, "a"},
		{" a ", 0, " a "},
		{"a > b", 0, "a > b"},
		{"a>", 0, "a>"},
		{" > a", 0, " > a"},
		{">", 1, ""},
		{"> ", 1, ""},
		{">  ", 1, " "},
		{">>", 2, ""},
		{">> ", 2, ""},
		{">a", 1, "a"},
		{"> a", 1, "a"},
		{">  a ", 1, " a "},
		{">>a", 2, "a"},
		{">>  a", 2, " a"},
		{"> > a", 1, "> a"},
		{"> >", 1, ">"},
		{">> >> a", 2, ">> a"},
		{">~", 1, "~"},
		{"<>", 0, "<>"},
		{rep(">", impl.MaxText), impl.MaxText, ""},
		{rep(">", impl.MaxText-1) + " ", impl.MaxText - 1, ""},
		{rep(" ", impl.MaxText), 0, rep(" ", impl.MaxText)},
		{">" + rep(" ", impl.MaxText-1), 1, rep(" ", impl.MaxText-2)},
		{full, 0, full},
	} {
		if n, rest := impl.UnquoteLine(c.line); n != c.n || rest != c.rest {
			t.Errorf("UnquoteLine(%q) = %d, %q, want %d, %q", c.line, n, rest, c.n, c.rest)
		}
	}
}

func TestUnquoteLineOfOtherLines(t *testing.T) {
	for _, bad := range append(notTexts(), rep(">", impl.MaxText+1), ">\t", "> a\n", ">\x00", ">\xff") {
		if n, rest := impl.UnquoteLine(bad); n != -1 || rest != "" {
			t.Errorf("UnquoteLine(%q) = %d, %q, want -1", bad, n, rest)
		}
	}
}

func TestPromise19SignsAreCounted(t *testing.T) {
	for _, line := range append(textsOver("> a", 8), someTexts()...) {
		n, rest := impl.UnquoteLine(line)
		if n < 0 || !strings.HasPrefix(line, rep(">", n)) || strings.HasPrefix(line, rep(">", n+1)) {
			t.Errorf("UnquoteLine(%q) = %d", line, n)
			continue
		}
		want := line[n:]
		if n > 0 && strings.HasPrefix(want, " ") {
			want = want[1:]
		}
		wantText(t, fmt.Sprintf("UnquoteLine(%q)", line), rest, want)
	}
}

// Promise 20.

func TestQuoteLines(t *testing.T) {
	for _, c := range []struct{ lines, want []string }{
		{nil, nil},
		{[]string{}, nil},
		{[]string{""}, []string{">"}},
		{[]string{" "}, []string{">  "}},
		{[]string{">"}, []string{">>"}},
		{[]string{"> "}, []string{">> "}},
		{[]string{">>"}, []string{">>>"}},
		{[]string{"a", "> b", "", " c"}, []string{"> a", ">> b", ">", ">  c"}},
		{[]string{">a", "a > b", " > c", "a>"}, []string{">>a", "> a > b", ">  > c", "> a>"}},
		{[]string{full[2:]}, []string{"> " + full[2:]}},
		{[]string{">" + full[2:]}, []string{">>" + full[2:]}},
		{[]string{rep(">", impl.MaxText-1)}, []string{rep(">", impl.MaxText)}},
		{repLines("a", impl.MaxLines), repLines("> a", impl.MaxLines)},
		{repLines("", impl.MaxLines), repLines(">", impl.MaxLines)},
	} {
		got, ok := impl.QuoteLines(c.lines)
		wantTrue(t, fmt.Sprintf("QuoteLines(%q)", c.lines), got, ok, c.want)
	}
}

func TestQuoteLinesOfOtherLines(t *testing.T) {
	lists := append(notLists(), repLines(">", impl.MaxLines+1))
	for _, line := range []string{full, full[1:], rep(" ", impl.MaxText-1), rep(">", impl.MaxText), ">" + full[1:]} {
		// These are texts, but they are none with what is ahead of them.
		lists = append(lists, []string{line}, []string{"a", line}, []string{line, ""}, append(repLines("", impl.MaxLines-1), line))
	}
	for _, lines := range lists {
		got, ok := impl.QuoteLines(lines)
		wantFalse(t, fmt.Sprintf("QuoteLines(%q)", lines), got, ok)
	}
}

func TestPromise20QuotedLinesAreALevelDeeper(t *testing.T) {
	lists := append(someLists(), textsOver("> a", 2), textsOver(">", impl.MaxLines-1))
	for _, line := range append(textsOver("> a", 7), someTexts()...) {
		lists = append(lists, []string{line}, []string{"a", line})
	}
	for _, lines := range lists {
		got, ok := impl.QuoteLines(lines)
		if !ok {
			if sizeOf(lines) < impl.MaxText-1 {
				t.Errorf("QuoteLines(%q) is false", lines)
			}
			continue
		}
		if len(got) != len(lines) || !areTexts(got) {
			t.Errorf("QuoteLines(%q) = %q", lines, got)
			continue
		}
		for i, line := range lines {
			n, rest := impl.UnquoteLine(line)
			if deeper, same := impl.UnquoteLine(got[i]); deeper != n+1 || same != rest {
				t.Errorf("UnquoteLine(%q) = %d, %q, but of %q %d, %q", got[i], deeper, same, line, n, rest)
			}
		}
	}
}

// Promise 21.

func TestFlowLines(t *testing.T) {
	nine := repLines("a", impl.MaxWords)
	for _, c := range []struct {
		parts [][]string
		width int
		want  []string
	}{
		{nil, 1, nil},
		{[][]string{}, impl.MaxText - 1, nil},
		{[][]string{{"a"}}, 1, []string{"a"}},
		{[][]string{{"a"}}, impl.MaxText - 1, []string{"a"}},
		{[][]string{{"a", "b"}}, 1, []string{"a ", "b"}},
		{[][]string{{"a", "b"}}, 2, []string{"a ", "b"}},
		{[][]string{{"a", "b"}}, 3, []string{"a b"}},
		{[][]string{{"a"}, {"b"}}, 3, []string{"a", "b"}},
		{[][]string{{"one", "two", "three"}, {"four"}}, 7, []string{"one two ", "three", "four"}},
		{[][]string{{"one", "two", "three"}, {"four"}}, 6, []string{"one ", "two ", "three", "four"}},
		{[][]string{{"one"}, {"two", "three"}, {"four", "five"}}, 8, []string{"one", "two ", "three", "four ", "five"}},
		{[][]string{{"one"}, {"two", "three"}, {"four", "five"}}, 9, []string{"one", "two three", "four five"}},
		{[][]string{{longest, longest}}, impl.MaxWord, []string{longest + " ", longest}},
		{[][]string{repLines(longest, impl.MaxWords)}, impl.MaxText - 1, []string{oneLine(repLines(longest, impl.MaxWords))}},
		{[][]string{repLines(longest, impl.MaxWords)}, 115, []string{oneLine(repLines(longest, impl.MaxWords-1)) + " ", longest}},
		{[][]string{nine, nine, {"b", "c"}}, 5, []string{"a a a ", "a a a ", "a a a", "a a a ", "a a a ", "a a a", "b c"}},
		{slices.Repeat([][]string{{"a"}}, impl.MaxLines), 1, repLines("a", impl.MaxLines)},
	} {
		got, ok := impl.FlowLines(c.parts, c.width)
		wantTrue(t, fmt.Sprintf("FlowLines(%q, %d)", c.parts, c.width), got, ok, c.want)
	}
}

func TestFlowLinesOfOtherArguments(t *testing.T) {
	want := func(parts [][]string, width int) {
		t.Helper()
		got, ok := impl.FlowLines(parts, width)
		wantFalse(t, fmt.Sprintf("FlowLines(%q, %d)", parts, width), got, ok)
	}
	for _, width := range append(notWidths, impl.MaxText) {
		want(nil, width)
		want([][]string{{"a"}}, width)
		want([][]string{{"one", "two", "three"}, {"four"}}, width)
	}
	for _, bad := range append(notWords(), nil, []string{}) {
		for _, width := range []int{20, impl.MaxText - 1} {
			want([][]string{bad}, width)
			want([][]string{{"a"}, bad}, width)
			want([][]string{bad, {"a"}}, width)
		}
	}
	nine := repLines("a", impl.MaxWords)
	want([][]string{nine, nine, {"b", "c", "d"}}, 20)
	want(slices.Repeat([][]string{{"a"}}, impl.MaxLines+1), 20)
	want(slices.Repeat([][]string{{"a", "b"}}, impl.MaxLines/2+1), 20)
	want([][]string{{"abc"}}, 2)
	want([][]string{{"a"}, {"b", "abc"}}, 2)
	want([][]string{{longest}}, impl.MaxWord-1)
}

// someParts returns paragraphs of many shapes, with as many words as there can be.
func someParts() [][][]string {
	var all [][][]string
	parts := [][]string{{"a"}, {"a", "bb"}, {"bb", "cccc", "a"}, repLines("bb", 5), {longest}}
	for _, list := range listsOver([]string{"0", "1", "2", "3", "4"}, 4) {
		var some [][]string
		for _, i := range list {
			some = append(some, parts[i[0]-'0'])
		}
		all = append(all, some)
	}
	nine := repLines("ccc", impl.MaxWords)
	return append(all, [][]string{nine, nine, {"a", "b"}}, [][]string{{"a", "b"}, nine, nine}, slices.Repeat([][]string{{"a"}}, impl.MaxLines), slices.Repeat([][]string{{"a", "bb"}}, impl.MaxLines/2))
}

func TestPromise21LinesThatFlowAreToldBack(t *testing.T) {
	for _, parts := range someParts() {
		most := sizeOf(slices.Concat(parts...))
		for _, width := range []int{1, 2, 4, 5, 7, 12, 13, 25, impl.MaxText - 1} {
			what := fmt.Sprintf("FlowLines(%q, %d)", parts, width)
			lines, ok := impl.FlowLines(parts, width)
			if ok != (most <= width) {
				t.Errorf("%s = %q, %v", what, lines, ok)
			}
			if !ok {
				continue
			}
			var want []string
			for _, part := range parts {
				wrapped, _ := impl.WrapWords(part, width)
				want = append(want, strings.Split(strings.Join(wrapped, " \n"), "\n")...)
			}
			wantList(t, what, lines, want)
			if len(lines) > impl.MaxLines || !areTexts(lines) {
				t.Errorf("%s = %q", what, lines)
			}
			wantParts(t, "UnflowLines of "+what, impl.UnflowLines(lines), parts)
		}
	}
}

// wantParts reports paragraphs that are not those wanted; nil and empty ones are the same.
func wantParts(t *testing.T, what string, got, want [][]string) {
	t.Helper()
	if !slices.EqualFunc(got, want, slices.Equal[[]string]) {
		t.Errorf("%s = %q, want %q", what, got, want)
	}
}

// Promise 22.

func TestUnflowLines(t *testing.T) {
	for _, c := range []struct {
		lines []string
		want  [][]string
	}{
		{nil, nil},
		{[]string{}, nil},
		{[]string{""}, [][]string{{}}},
		{[]string{" "}, [][]string{{}}},
		{[]string{"", ""}, [][]string{{}, {}}},
		{[]string{" ", ""}, [][]string{{}}},
		{[]string{" ", " "}, [][]string{{}}},
		{[]string{"a"}, [][]string{{"a"}}},
		{[]string{"a "}, [][]string{{"a"}}},
		{[]string{"a", "b"}, [][]string{{"a"}, {"b"}}},
		{[]string{"a ", "b"}, [][]string{{"a", "b"}}},
		{[]string{"a ", "b "}, [][]string{{"a", "b"}}},
		{[]string{"a", "b "}, [][]string{{"a"}, {"b"}}},
		{[]string{"a ", "", "b"}, [][]string{{"a"}, {"b"}}},
		{[]string{"a ", " ", "b"}, [][]string{{"a", "b"}}},
		{[]string{"one two ", "three", "", "four "}, [][]string{{"one", "two", "three"}, {}, {"four"}}},
		{[]string{"  one   two  ", "  three"}, [][]string{{"one", "two", "three"}}},
		{[]string{full, full}, [][]string{{full}, {full}}},
		{[]string{full[1:] + " ", full[1:] + " ", full}, [][]string{{full[1:], full[1:], full}}},
		{repLines("a ", impl.MaxLines), [][]string{repLines("a", impl.MaxLines)}},
		{repLines("a", impl.MaxLines), slices.Repeat([][]string{{"a"}}, impl.MaxLines)},
		{repLines(rep("a ", 60), impl.MaxLines), [][]string{repLines("a", 60*impl.MaxLines)}},
	} {
		wantParts(t, fmt.Sprintf("UnflowLines(%q)", c.lines), impl.UnflowLines(c.lines), c.want)
	}
	for _, lines := range notLists() {
		wantParts(t, fmt.Sprintf("UnflowLines(%q)", lines), impl.UnflowLines(lines), nil)
	}
}

func TestPromise22ParagraphsHaveAllWords(t *testing.T) {
	lists := append(someLists(), listsOver([]string{"", " ", "a", "b ", " c  d ", "e f"}, 4)...)
	for _, lines := range lists {
		parts := impl.UnflowLines(lines)
		if len(parts) > len(lines) {
			t.Errorf("UnflowLines(%q) = %q has more paragraphs than lines", lines, parts)
		}
		wantList(t, fmt.Sprintf("words of UnflowLines(%q)", lines), slices.Concat(parts...), strings.Fields(oneLine(lines)))
		ends := 0
		for i, line := range lines {
			if i == len(lines)-1 || !strings.HasSuffix(line, " ") {
				ends++
			}
		}
		if len(parts) != ends {
			t.Errorf("UnflowLines(%q) = %q, want %d paragraphs", lines, parts, ends)
		}
	}
}

func TestParagraphsAreNotShared(t *testing.T) {
	lines := []string{"a ", "b", "c", "d "}
	parts := impl.UnflowLines(lines)
	for _, part := range parts {
		_ = append(part, "changed")
		part[0] = "changed"
	}
	wantParts(t, "UnflowLines", parts, [][]string{{"changed", "b"}, {"changed"}, {"changed"}})
	wantList(t, "the lines", lines, []string{"a ", "b", "c", "d "})
}

// Promise 23.

func TestSideBySide(t *testing.T) {
	for _, c := range []struct {
		a, b []string
		gap  int
		want []string
	}{
		{nil, nil, 0, nil},
		{[]string{}, []string{}, 10, nil},
		{[]string{"a"}, nil, 0, []string{"a"}},
		{[]string{"a"}, nil, 2, []string{"a  "}},
		{nil, []string{"b"}, 0, []string{"b"}},
		{nil, []string{"b"}, 2, []string{"  b"}},
		{[]string{""}, []string{""}, 0, []string{""}},
		{[]string{""}, []string{""}, 10, []string{"          "}},
		{[]string{"", "a"}, []string{"b"}, 0, []string{" b", "a"}},
		{[]string{"a", "bbb"}, []string{"x", "y", "z"}, 2, []string{"a    x", "bbb  y", "     z"}},
		{[]string{"a", "bbb", "cc"}, []string{"x"}, 1, []string{"a   x", "bbb ", "cc  "}},
		{[]string{"a", "bb "}, []string{" x ", ""}, 0, []string{"a   x ", "bb "}},
		{[]string{"a"}, []string{"x"}, 10, []string{"a          x"}},
		{[]string{full}, nil, 0, []string{full}},
		{nil, []string{full}, 0, []string{full}},
		{[]string{full, "a"}, []string{""}, 0, []string{full, "a" + rep(" ", impl.MaxText-1)}},
		{[]string{full[10:]}, []string{}, 10, []string{full[10:] + "          "}},
		{[]string{"ab"}, []string{full[5:]}, 3, []string{"ab   " + full[5:]}},
		{repLines("a", impl.MaxLines), repLines("b", impl.MaxLines), 1, repLines("a b", impl.MaxLines)},
		{nil, repLines("b", impl.MaxLines), 1, repLines(" b", impl.MaxLines)},
	} {
		got, ok := impl.SideBySide(c.a, c.b, c.gap)
		wantTrue(t, fmt.Sprintf("SideBySide(%q, %q, %d)", c.a, c.b, c.gap), got, ok, c.want)
	}
}

func TestSideBySideOfOtherArguments(t *testing.T) {
	want := func(a, b []string, gap int) {
		t.Helper()
		got, ok := impl.SideBySide(a, b, gap)
		wantFalse(t, fmt.Sprintf("SideBySide(%q, %q, %d)", a, b, gap), got, ok)
	}
	for _, gap := range notIndents {
		want(nil, nil, gap)
		want([]string{"a"}, []string{"b"}, gap)
	}
	for _, bad := range notLists() {
		for _, gap := range []int{0, impl.MaxIndent} {
			want(bad, nil, gap)
			want(nil, bad, gap)
			want(bad, []string{"b"}, gap)
			want([]string{"a"}, bad, gap)
			want(bad, bad, gap)
		}
	}
	want([]string{full}, nil, 1)
	want([]string{full}, []string{"b"}, 0)
	want([]string{full, "a"}, []string{"", "b"}, 0)
	want([]string{"a"}, []string{full}, 0)
	want([]string{"a"}, []string{"", full}, 0)
	want(nil, []string{full}, 1)
	want([]string{full[9:]}, nil, 10)
	want([]string{"ab"}, []string{full[4:]}, 3)
	want([]string{full[9:]}, nil, impl.MaxIndent)
}

// at returns the line at place i, "" if there are fewer.
func at(lines []string, i int) string {
	if i < len(lines) {
		return lines[i]
	}
	return ""
}

func TestPromise23LinesStayBesideEachOther(t *testing.T) {
	lists := listsOver([]string{"", "a", " bb ", "cccc"}, 3)
	lists = append(lists, []string{full}, []string{full[10:], "a"}, []string{full[60:]}, []string{full[59:]}, repLines("a", impl.MaxLines))
	for _, a := range lists {
		for _, b := range lists {
			for _, gap := range []int{0, 1, 3, impl.MaxIndent} {
				wantBeside(t, a, b, gap)
			}
		}
	}
}

// wantBeside reports lines beside each other that do not begin with those of a, and end with those of b right behind the gap.
func wantBeside(t *testing.T, a, b []string, gap int) {
	t.Helper()
	what := fmt.Sprintf("SideBySide(%q, %q, %d)", a, b, gap)
	size := max(len(a), len(b))
	width := sizeOf(a) + gap
	fits := true
	for i := range size {
		fits = fits && width+len(at(b, i)) <= impl.MaxText
	}
	got, ok := impl.SideBySide(a, b, gap)
	if ok != fits || ok && len(got) != size || !ok && len(got) != 0 {
		t.Errorf("%s = %q, %v", what, got, ok)
		return
	}
	for i, line := range got {
		if !strings.HasPrefix(line, at(a, i)) || !strings.HasSuffix(line, at(b, i)) || len(line) != width+len(at(b, i)) {
			t.Errorf("%s has %q", what, line)
			continue
		}
		wantText(t, "what is between in "+what, line[len(at(a, i)):width], rep(" ", width-len(at(a, i))))
	}
}

// Promise 24.

func TestBoxLines(t *testing.T) {
	edge := "+" + rep("-", impl.MaxText-2) + "+"
	for _, c := range []struct{ lines, want []string }{
		{nil, []string{"+--+", "+--+"}},
		{[]string{}, []string{"+--+", "+--+"}},
		{[]string{""}, []string{"+--+", "|  |", "+--+"}},
		{[]string{"", ""}, []string{"+--+", "|  |", "|  |", "+--+"}},
		{[]string{" "}, []string{"+---+", "|   |", "+---+"}},
		{[]string{"a"}, []string{"+---+", "| a |", "+---+"}},
		{[]string{"ab", "c"}, []string{"+----+", "| ab |", "| c  |", "+----+"}},
		{[]string{"", "ab", " c"}, []string{"+----+", "|    |", "| ab |", "|  c |", "+----+"}},
		{[]string{"a "}, []string{"+----+", "| a  |", "+----+"}},
		{[]string{"+--+", "|  |"}, []string{"+------+", "| +--+ |", "| |  | |", "+------+"}},
		{[]string{full[4:]}, []string{edge, "| " + full[4:] + " |", edge}},
		{[]string{"", full[4:]}, []string{edge, "| " + rep(" ", 116) + " |", "| " + full[4:] + " |", edge}},
		{repLines("", 18), append(append([]string{"+--+"}, repLines("|  |", 18)...), "+--+")},
	} {
		got, ok := impl.BoxLines(c.lines)
		wantTrue(t, fmt.Sprintf("BoxLines(%q)", c.lines), got, ok, c.want)
	}
}

func TestBoxLinesOfOtherLines(t *testing.T) {
	lists := append(notLists(), repLines("a", impl.MaxLines-1), repLines("", impl.MaxLines-1), repLines("a", impl.MaxLines))
	for _, line := range []string{full, full[1:], full[2:], full[3:], rep(" ", 117)} {
		// These are texts, but they are none in a box.
		lists = append(lists, []string{line}, []string{"", line}, []string{line, "a"}, append(repLines("a", impl.MaxLines-3), line))
	}
	for _, lines := range lists {
		got, ok := impl.BoxLines(lines)
		wantFalse(t, fmt.Sprintf("BoxLines(%q)", lines), got, ok)
	}
}

// boxed returns what BoxLines must be.
func boxed(lines []string) []string {
	size := sizeOf(lines)
	out := []string{"+" + rep("-", size+2) + "+"}
	for _, line := range lines {
		out = append(out, "| "+line+rep(" ", size-len(line))+" |")
	}
	return append(out, out[0])
}

// endsWithSpace reports whether one of the lines ends with a space.
func endsWithSpace(lines []string) bool {
	return slices.ContainsFunc(lines, func(line string) bool { return strings.HasSuffix(line, " ") })
}

// listsForBoxes returns lines of many shapes, with and without spaces at their ends, some of them too many or too long for a box.
func listsForBoxes() [][]string {
	lists := append(someLists(), listsOver([]string{"", "a", " b", "c d", "|", "+-+", "e "}, 3)...)
	for n := range impl.MaxLines + 1 {
		lists = append(lists, repLines("", n), repLines("ab", n))
	}
	return append(lists, []string{full[4:], ""}, []string{"", full[3:]}, repLines(full[4:], impl.MaxLines-2), []string{allPlain()})
}

func TestPromise24BoxesAreAsWideAsTheirLines(t *testing.T) {
	for _, lines := range listsForBoxes() {
		what := fmt.Sprintf("BoxLines(%q)", lines)
		got, ok := impl.BoxLines(lines)
		if ok != (len(lines) <= impl.MaxLines-2 && sizeOf(lines) <= impl.MaxText-4) {
			t.Errorf("%s = %q, %v", what, got, ok)
		}
		if !ok {
			continue
		}
		wantList(t, what, got, boxed(lines))
		for _, line := range got {
			if len(line) != sizeOf(lines)+4 {
				t.Errorf("%s has %q", what, line)
			}
		}
		if back, fine := impl.UnboxLines(got); !endsWithSpace(lines) {
			wantTrue(t, fmt.Sprintf("UnboxLines(%q)", got), back, fine, lines)
		}
	}
}

// Promise 25.

func TestUnboxLines(t *testing.T) {
	for _, c := range []struct{ lines, want []string }{
		{[]string{"+--+", "+--+"}, nil},
		{[]string{"+--+", "|  |", "+--+"}, []string{""}},
		{[]string{"+--+", "|  |", "|  |", "+--+"}, []string{"", ""}},
		{[]string{"+---+", "| a |", "+---+"}, []string{"a"}},
		{[]string{"+---+", "| a |", "|   |", "+---+"}, []string{"a", ""}},
		{[]string{"+----+", "| ab |", "| c  |", "|  d |", "+----+"}, []string{"ab", "c", " d"}},
		{[]string{"+---+", "| | |", "+---+"}, []string{"|"}},
		{boxed([]string{full[4:], "a"}), []string{full[4:], "a"}},
		{boxed(repLines("", impl.MaxLines-2)), repLines("", impl.MaxLines-2)},
		{boxed(boxed([]string{"a", ""})), boxed([]string{"a", ""})},
	} {
		got, ok := impl.UnboxLines(c.lines)
		wantTrue(t, fmt.Sprintf("UnboxLines(%q)", c.lines), got, ok, c.want)
	}
}

func TestUnboxLinesOfOtherLines(t *testing.T) {
	lists := append(notLists(), nil, []string{}, []string{""}, []string{"", ""}, []string{"a", "b"}, boxed(repLines("", impl.MaxLines-1)), boxed([]string{full[3:]}), boxed([]string{full[3:], "a"}), boxed([]string{"a\t"}))
	for _, s := range []string{
		"+--+",
		"+-+,+-+",
		"++,++",
		"+---+,+---+",
		"|--|,|--|",
		"+==+,+==+",
		"+--+,+---+",
		"+--+,|  |",
		"|  |,+--+",
		"+--+,,+--+",
		"+--+,|,+--+",
		"+--+,||,+--+",
		"+--+,| |,+--+",
		"+--+,|   |,+--+",
		"+---+,|   |,+---+",
		"+---+,| a|,+---+",
		"+---+,|a |,+---+",
		"+---+,| a |,+--+",
		"+--+,| a |,+---+",
		"+---+,| a |",
		"| a |,+---+",
		"+---+,|a  |,+---+",
		"+---+,|  a|,+---+",
		"+---+,| a +,+---+",
		"+---+,+ a |,+---+",
		"+---+,| a |,+---+ ",
		"+---+,| a | ,+---+",
		" +---+, | a |, +---+",
		"+---+,| a |,|  |,+---+",
		"+----+,| a  |,+----+",
		"+----+,| a  |,| b  |,+----+",
		"+---+,| a |,+---+,+---+",
		"+---+,+---+,| a |,+---+",
		"+---+,| a |,+---+,| b |,+---+",
		"+---+,|   |,|   |,+---+",
	} {
		lists = append(lists, strings.Split(s, ","))
	}
	for _, lines := range lists {
		got, ok := impl.UnboxLines(lines)
		wantFalse(t, fmt.Sprintf("UnboxLines(%q)", lines), got, ok)
	}
}

// wantUnboxed reports lines that are told of a box, but are not those that stand in it, or have spaces at their ends.
func wantUnboxed(t *testing.T, lines, held []string, isBox bool) {
	t.Helper()
	what := fmt.Sprintf("UnboxLines(%q)", lines)
	got, ok := impl.UnboxLines(lines)
	if !isBox {
		wantFalse(t, what, got, ok)
		return
	}
	wantTrue(t, what, got, ok, held)
	if endsWithSpace(got) {
		t.Errorf("%s = %q", what, got)
	}
	again, fine := impl.BoxLines(got)
	wantTrue(t, "BoxLines of "+what, again, fine, lines)
}

func TestPromise25LinesOfBoxesAreBoxedAgain(t *testing.T) {
	// All boxes of lines without spaces at their ends that could be among the lists below.
	boxes := map[string][]string{}
	for _, held := range listsOver([]string{"", "a", " a", "|", " |", "--"}, 3) {
		boxes[strings.Join(boxed(held), ",")] = held
	}
	edges := []string{"+--+", "+---+", "+----+", "+-+"}
	for _, above := range edges {
		for _, below := range edges {
			for _, inside := range listsOver([]string{"|  |", "|   |", "| a |", "|  a |", "| a  |", "| | |", "| -- |", "|a|", "+--+"}, 3) {
				lines := slices.Concat([]string{above}, inside, []string{below})
				held, isBox := boxes[strings.Join(lines, ",")]
				wantUnboxed(t, lines, held, isBox)
			}
		}
	}
}

func TestPromise25BoxesWithAnotherByteAreNone(t *testing.T) {
	for _, held := range [][]string{nil, {""}, {"a"}, {"ab", " c"}, {"|", "", "+-+"}} {
		lines := boxed(held)
		wantUnboxed(t, lines, held, true)
		wantUnboxed(t, lines[1:], nil, false)
		wantUnboxed(t, lines[:len(lines)-1], nil, false)
		for i, line := range lines {
			wantUnboxed(t, slices.Insert(slices.Clone(lines), i, ""), nil, false)
			for j := range len(line) {
				isInside := i > 0 && i < len(lines)-1 && j > 1 && j < len(line)-2
				for _, b := range " +-|\t" {
					if changed := line[:j] + string(b) + line[j+1:]; changed != line && !isInside {
						wantUnboxed(t, slices.Replace(slices.Clone(lines), i, i+1, changed), nil, false)
					}
				}
				wantUnboxed(t, slices.Replace(slices.Clone(lines), i, i+1, line[:j]+line[j+1:]), nil, false)
			}
		}
	}
}

// The general conventions.

func TestLinesAreNotChangedByShapes(t *testing.T) {
	room := []string{"aaa", "bb ", "> c", "", "behind"}
	list, lines := room[:1], room[:4]
	box := boxed([]string{"a", "b"})
	for _, call := range []func() []string{
		func() []string { l, _ := impl.FillWords(list, 6, 2, 1); return l },
		func() []string { l, _ := impl.FillWords(list, 3, 0, 0); return l },
		func() []string { l, _ := impl.QuoteLines(lines); return l },
		func() []string { l, _ := impl.FlowLines([][]string{list, list}, 3); return l },
		func() []string { return slices.Concat(impl.UnflowLines(lines)...) },
		func() []string { l, _ := impl.SideBySide(lines, list, 1); return l },
		func() []string { l, _ := impl.SideBySide(lines, nil, 0); return l },
		func() []string { l, _ := impl.SideBySide(nil, lines, 0); return l },
		func() []string { l, _ := impl.BoxLines(lines); return l },
		func() []string { l, _ := impl.UnboxLines(box); return l },
	} {
		first := call()
		kept := slices.Clone(first)
		if len(kept) == 0 {
			t.Fatal("the call has no lines")
		}
		for i := range first {
			first[i] = "changed"
		}
		_ = append(first, "changed")
		wantList(t, "the lines", room, []string{"aaa", "bb ", "> c", "", "behind"})
		wantList(t, "the box", box, []string{"+---+", "| a |", "| b |", "+---+"})
		wantList(t, "the second result", call(), kept)
	}
}
