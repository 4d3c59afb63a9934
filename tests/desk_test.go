package tests

import (
	"fmt"
	"slices"
	"strconv"
	"strings"
	"testing"

	"loop.example/textsinlines/impl"
)

// deskLine is a line and what it is answered by.
type deskLine struct {
	line, want string
}

// answersOf returns what RunDesk must be for the lines, each with a newline behind its answer.
func answersOf(lines []deskLine) ([]string, string) {
	var asked []string
	var want strings.Builder
	for _, l := range lines {
		asked = append(asked, l.line)
		want.WriteString(l.want + "\n")
	}
	return asked, want.String()
}

// someAnswers returns lines of all words, with what they are answered by.
func someAnswers() []deskLine {
	lines := []deskLine{
		{"fold ", ""},
		{"fold  ", ""},
		{"fold a", "a"},
		{"fold  a  b ", "a b"},
		{"fold fold a", "fold a"},
		{"fold {a} \"b\"/,", "{a} \"b\"/,"},
		{"fold " + full, full},
		{"fold " + rep(" ", impl.MaxText), ""},
		{"fold " + allPlain(), strings.TrimSpace(allPlain())},
		{"fold " + full + "x", "wrong"},
		{"fold " + rep(" ", impl.MaxText+1), "wrong"},

		{"holes ", ""},
		{"holes a b", ""},
		{"holes {{a}}", ""},
		{"holes {a}", "a"},
		{"holes {b}{a}", "b,a"},
		{"holes {b} of {a}, {b}", "b,a"},
		{"holes  {a}", "a"},
		{"holes {e}{d}{c}{b}{a}", "e,d,c,b,a"},
		{"holes {a}" + full[3:], "a"},
		{"holes {", "wrong"},
		{"holes {}", "wrong"},
		{"holes {A}", "wrong"},
		{"holes {a b}", "wrong"},
		{"holes " + rep("{a}", impl.MaxHoles+1), "wrong"},
		{"holes {a}" + full[2:], "wrong"},
		{"holes {" + longName + "}", longName},
		{"holes {" + longName + "n}", "wrong"},

		{`cells ""`, ""},
		{`cells a`, "a"},
		{`cells "",""`, "/"},
		{`cells a,"b c"`, "a/b c"},
		{`cells a,b/c,"d,e"`, "a/b/c/d,e"},
		{`cells "a""b",""""`, `a"b/"`},
		{`cells " a "," "`, " a / "},
		{`cells a,b,c,d,e`, "a/b/c/d/e"},
		{`cells ` + wide, wide},
		// The text of cells may be longer than others.
		{`cells ` + strings.Join(slices.Repeat([]string{`"` + rep(`""`, impl.MaxCell) + `"`}, impl.MaxCells), ","), strings.Join(repLines(rep(`"`, impl.MaxCell), impl.MaxCells), "/")},
		{`cells `, "wrong"},
		{`cells  `, "wrong"},
		{`cells  a`, "wrong"},
		{`cells a b`, "wrong"},
		{`cells "a"`, "wrong"},
		{`cells a,`, "wrong"},
		{`cells ,a`, "wrong"},
		{`cells "a b`, "wrong"},
		{`cells "a b" `, "wrong"},
		{`cells a"b`, "wrong"},
		{`cells a,b,c,d,e,f`, "wrong"},
		{`cells ` + wide + "c", "wrong"},

		{"wrap 6 aaa bb cc ddddd", "aaa bb/cc/ddddd"},
		{"wrap 6   aaa  bb cc   ddddd  ", "aaa bb/cc/ddddd"},
		{"wrap 5 ddddd", "ddddd"},
		{"wrap 4 ddddd", "wrong"},
		{"wrap 1 a b c", "a/b/c"},
		{"wrap 3 1 2 3", "1 2/3"},
		{"wrap 3 a/b c", "a/b/c"},

		{"even 6 aaa bb cc ddddd", "aaa/bb cc/ddddd"},
		{"even 6   aaa  bb cc   ddddd  ", "aaa/bb cc/ddddd"},
		{"even 5 ddddd", "ddddd"},
		{"even 5 longest", "wrong"},
		{"even 1 a b c", "a/b/c"},

		{"width 2 aaa bb cc ddddd", "8"},
		{"width 1 aaa bb cc ddddd", "15"},
		{"width 9 aaa bb cc ddddd", "5"},
		{"width 3   aaa  bb cc   ddddd  ", "5"},
		{"width 9 a", "1"},
		{"width 10 a", "wrong"},
		{"width 120 a", "wrong"},
		{"width 1 " + oneLine(repLines(longest, impl.MaxWords)), strconv.Itoa(13*impl.MaxWords - 1)},

		{"what", "what"},
		{"walk 1", "what"},
		{"wrong", "what"},
		{"wrong 1 a", "what"},
		{"help", "what"},
		{"", "what"},
		{" ", "what"},
		{"  ", "what"},
		{"a", "what"},
		{"\n", "what"},
		{full, "what"},
		{rep("a ", 100000), "what"},
		{"foldholes a", "what"},
		{"holes\u00a0{a}", "what"},
		{"1 wrap a", "what"},
	}
	for _, word := range []string{"fold", "holes", "cells", "wrap", "even", "width"} {
		lines = append(lines, strangeLines(word)...)
	}
	lines = append(lines, sizedLines("wrap", "", "a", impl.MaxText)...)
	lines = append(lines, sizedLines("even", "", "a", impl.MaxText)...)
	return append(lines, sizedLines("width", "1", "1", impl.MaxWords)...)
}

// strangeLines returns lines that are none of the word, and lines of it with texts that are none.
func strangeLines(word string) []deskLine {
	lines := []deskLine{
		{word, "what"},
		{" " + word, "what"},
		{" " + word + " 5 a", "what"},
		{word + "\t5 a", "what"},
		{word + "\t", "what"},
		{word + "\n", "what"},
		{word + "5 a", "what"},
		{word + "s 5 a", "what"},
		{word[1:] + " 5 a", "what"},
		{strings.ToUpper(word) + " 5 a", "what"},
		{strings.ToUpper(word[:1]) + word[1:] + " 5 a", "what"},
		{word + "\x00 5 a", "what"},
	}
	for _, s := range []string{"\t", "\n", "\x00", "\x1f", "\x7f", "\xe9", "\u00e9"} {
		lines = append(lines, deskLine{word + " " + s, "wrong"}, deskLine{word + " 5 a" + s, "wrong"}, deskLine{word + " 5" + s + "a", "wrong"}, deskLine{word + " " + s + "5 a", "wrong"}, deskLine{word + " 5 " + s + " a", "wrong"})
	}
	return append(lines, deskLine{word + " 5 " + rep("a ", 100000), "wrong"}, deskLine{word + " " + rep("{", 99999), "wrong"})
}

// sizedLines returns lines of a word that wants a number ahead of words: with the answers to no words, and to a, and the greatest number that it takes.
func sizedLines(word, none, a string, most int) []deskLine {
	lines := []deskLine{
		// There are no words.
		{word + " 5", none},
		{word + " 5 ", none},
		{word + " 5  ", none},
		{word + " 1", none},
		{fmt.Sprintf("%s %d", word, most), none},
		{fmt.Sprintf("%s %d a", word, most), a},
		{word + " 1 a", a},
		{word + " 5   a  ", a},
		// Words are those of WordsOf, and as many and as long as they can be.
		{word + " 9 " + rep("a ", impl.MaxWords+1), "wrong"},
		{word + " 9 " + rep("a", impl.MaxWord+1), "wrong"},
		// The text is as long as it can be, or one byte longer.
		{word + " 5 " + rep(" ", impl.MaxText-2), none},
		{word + " 5 " + rep(" ", impl.MaxText-1), "wrong"},
		{word + " 5 a" + rep(" ", impl.MaxText-3), a},
		{word + " 5 a" + rep(" ", impl.MaxText-2), "wrong"},
	}
	for _, number := range []string{
		"", " ", "x", "a", "0", "00", "-1", "-5", "-0", "+5", "+1", "05", "005", "01", "5.", "5.0", "5,", "5a", "a5", "5-", " 5", "0x5", "0b1", "1_0", "1e0", "{5}", "\"5\"", strconv.Itoa(most + 1), "1000",
		"9223372036854775807", "9223372036854775808", "18446744073709551616", "18446744073709551617", "18446744073709551621", "4294967297", "99999999999999999999", "-9223372036854775808", "-18446744073709551611", rep("9", 100), rep("0", 50) + "5",
	} {
		lines = append(lines, deskLine{word + " " + number, "wrong"}, deskLine{word + " " + number + " a", "wrong"}, deskLine{word + " " + number + " 5 a", "wrong"})
	}
	return lines
}

// wantDesk reports answers that are not the ones wanted.
func wantDesk(t *testing.T, lines []string, want string) {
	t.Helper()
	wantText(t, fmt.Sprintf("RunDesk(%.200q)", lines), impl.RunDesk(lines), want)
}

func TestLimitOfDesk(t *testing.T) {
	if impl.MaxDesk != 20 {
		t.Errorf("limit = %d", impl.MaxDesk)
	}
}

// Promise 47.

func TestRunDesk(t *testing.T) {
	for _, l := range someAnswers() {
		wantDesk(t, []string{l.line}, l.want+"\n")
	}
	for lines := range slices.Chunk(someAnswers(), impl.MaxDesk) {
		asked, want := answersOf(lines)
		wantDesk(t, asked, want)
	}
}

func TestRunDeskOfManyLines(t *testing.T) {
	wantDesk(t, nil, "")
	wantDesk(t, []string{}, "")
	for n := range 2 * impl.MaxDesk {
		for _, l := range []deskLine{{"fold  a  b", "a b"}, {"cells", "what"}, {"", "what"}, {"wrap 0", "wrong"}, {"fold ", ""}} {
			want := rep(l.want+"\n", n)
			if n > impl.MaxDesk {
				want = ""
			}
			wantDesk(t, repLines(l.line, n), want)
		}
	}
	wantDesk(t, repLines("fold a", 1000), "")
}

func TestRunDeskIsThatOfTheFunctions(t *testing.T) {
	orWrong := func(answer string, ok bool) string {
		if !ok {
			return "wrong\n"
		}
		return answer + "\n"
	}
	for _, text := range append(someTexts(), textsOver(`{}a,"`, 4)...) {
		wantDesk(t, []string{"fold " + text}, impl.FoldText(text)+"\n")
		wantDesk(t, []string{"holes " + text}, orWrong(strings.Join(impl.HolesOf(text), ","), impl.ValidForm(text)))
		cells, ok := impl.ReadCells(text)
		wantDesk(t, []string{"cells " + text}, orWrong(strings.Join(cells, "/"), ok))
	}
	forWords(func(list []string, width int) {
		text := strconv.Itoa(width) + " " + strings.Join(list, " ")
		if !impl.ValidText(text) {
			return
		}
		lines, ok := impl.WrapWords(list, width)
		wantDesk(t, []string{"wrap " + text}, orWrong(strings.Join(lines, "/"), ok))
		lines, ok = impl.EvenWrap(list, width)
		wantDesk(t, []string{"even " + text}, orWrong(strings.Join(lines, "/"), ok))
		least, ok := impl.LeastWidth(list, width)
		wantDesk(t, []string{"width " + text}, orWrong(strconv.Itoa(least), ok))
	})
}

func TestPromise47EachLineHasAnAnswer(t *testing.T) {
	all := someAnswers()
	for start := 0; start+impl.MaxDesk <= len(all); start += 3 {
		asked, _ := answersOf(all[start : start+impl.MaxDesk])
		whole := impl.RunDesk(asked)
		for n := range len(asked) + 1 {
			first := impl.RunDesk(asked[:n])
			if strings.Count(first, "\n") != n || !strings.HasPrefix(whole, first) {
				t.Errorf("RunDesk(%.200q) = %q, and of all %q", asked[:n], first, whole)
			}
		}
	}
}

// The general conventions.

func TestDeskKeepsNothing(t *testing.T) {
	room := []string{"fold a  b", "wrap 3 a b c", "behind"}
	for range 2 {
		wantDesk(t, room[:2], "a b\na b/c\n")
		wantDesk(t, room[1:2], "a b/c\n")
		wantList(t, "lines", room, []string{"fold a  b", "wrap 3 a b c", "behind"})
	}
}
