package tests

import (
	"slices"
	"strings"
	"testing"

	"loop.example/textsinlines/impl"
)

// textsOver returns all texts of at most n bytes, each from the alphabet.
func textsOver(alphabet string, n int) []string {
	all := []string{""}
	last := all
	for range n {
		var next []string
		for _, s := range last {
			for i := range len(alphabet) {
				next = append(next, s+alphabet[i:i+1])
			}
		}
		all = append(all, next...)
		last = next
	}
	return all
}

// listsOver returns all lists of at most n lines, each one of the given ones.
func listsOver(lines []string, n int) [][]string {
	all := [][]string{nil}
	last := all
	for range n {
		var next [][]string
		for _, list := range last {
			for _, line := range lines {
				next = append(next, append(slices.Clone(list), line))
			}
		}
		all = append(all, next...)
		last = next
	}
	return all
}

// rep returns n times s.
func rep(s string, n int) string {
	return strings.Repeat(s, n)
}

// repLines returns n lines that are the same.
func repLines(line string, n int) []string {
	return slices.Repeat([]string{line}, n)
}

// sizeOf returns the number of bytes of the longest line, 0 for no lines.
func sizeOf(lines []string) int {
	size := 0
	for _, line := range lines {
		size = max(size, len(line))
	}
	return size
}

// allPlain returns every byte that a text may have, once.
func allPlain() string {
	var b []byte
	for c := byte(32); c <= 126; c++ {
		b = append(b, c)
	}
	return string(b)
}

// notTexts returns strings that break the rules of a text, by one byte each or by one more byte than the limit.
func notTexts() []string {
	list := []string{rep("a", impl.MaxText+1), rep(" ", impl.MaxText+1), rep("a", 100000)}
	for c := range 256 {
		if c < 32 || c > 126 {
			b := string([]byte{byte(c)})
			list = append(list, b, "ab"+b, b+" a", "a"+b+" b")
		}
	}
	return append(list, "\u00e9", "a \u20ac", "\xff\xfe", "\U0001f600")
}

// someTexts returns texts of many shapes: short ones, and those at the limits.
func someTexts() []string {
	list := textsOver("a ~", 6)
	for _, n := range []int{7, 11, 12, 13, 24, 59, 60, 119, 120} {
		list = append(list, rep("a", n), rep(" ", n), rep("a ", n/2), rep(" b", n/2), rep("ab   ", n/5), rep(" ", n-1)+"x", "x"+rep(" ", n-1))
	}
	return append(list, allPlain())
}

// someLists returns lists of lines of many shapes, with their limits.
func someLists() [][]string {
	lists := listsOver([]string{"", " ", "   ", "a", " b ", "   c  d"}, 4)
	return append(lists,
		repLines("  a", impl.MaxLines),
		repLines("", impl.MaxLines),
		append(repLines("    a b", impl.MaxLines-1), "   c"),
		[]string{rep(" ", impl.MaxText), rep(" ", impl.MaxText-1) + "x"},
		[]string{rep(" ", 10) + "a", rep(" ", 11) + "b"},
		[]string{rep(" ", 11) + "a", rep(" ", 12) + "b"},
		[]string{rep("a", impl.MaxText), " b"},
		[]string{rep("a", impl.MaxText-2), rep(" ", impl.MaxText)})
}

// notLists returns lists that are no lines: too many, or with one that is no text.
func notLists() [][]string {
	lists := [][]string{repLines("a", impl.MaxLines+1), repLines("", impl.MaxLines+1), repLines(" ", 1000)}
	for _, s := range []string{"\t", "\n", "\x7f", "\x00", "\x1f", "\xe9", " a\t", rep("a", impl.MaxText+1), rep(" ", impl.MaxText+1)} {
		lists = append(lists, []string{s}, []string{"a", s}, []string{s, "  a"}, append(repLines("a", impl.MaxLines-1), s))
	}
	return lists
}

// wantList reports a list that is not the one wanted; nil and empty are the same.
func wantList(t *testing.T, what string, got, want []string) {
	t.Helper()
	if !slices.Equal(got, want) {
		t.Errorf("%s = %q, want %q", what, got, want)
	}
}

// wantTrue reports a list that is not the one wanted, or that comes with false.
func wantTrue(t *testing.T, what string, got []string, ok bool, want []string) {
	t.Helper()
	if !ok {
		t.Errorf("%s is false", what)
	}
	wantList(t, what, got, want)
}

// wantFalse reports a list that comes with true, or with false but is not empty.
func wantFalse(t *testing.T, what string, got []string, ok bool) {
	t.Helper()
	if ok || len(got) != 0 {
		t.Errorf("%s = %q, %v", what, got, ok)
	}
}

// wantText reports a text that is not the one wanted.
func wantText(t *testing.T, what string, got, want string) {
	t.Helper()
	if got != want {
		t.Errorf("%s = %q, want %q", what, got, want)
	}
}
