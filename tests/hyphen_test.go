package tests

import (
	"fmt"
	"math"
	"regexp"
	"slices"
	"strings"
	"testing"

	"loop.example/textsinlines/impl"
)

// patternShape is that of all patterns, whatever their length, and of digits alone.
var patternShape = regexp.MustCompile(`^\.?(?:[0-9]?[a-z])*[0-9]?\.?$`)

// somePatterns are patterns of many shapes, with their limits.
var somePatterns = []string{
	"a", "1a", "a1", "2a3", "a1b", "b2a", "1na", "n2a", "4na.", ".b3a", ".a1", "1a.", ".1a", "a1.", "1a1a1", "3a2a4", "0a0", "9a", "a8a", "aa7",
	".", "..", "1.", ".1", ".1.", "b", "1b2", "5ab6", "7ba8", ".ab1", "1ab.", "a1a1a1a1a1", "abcdefghij", "1z",
}

// someParted are words for patterns, with their limits.
var someParted = append(textsOver("ab", 5)[1:], "banana", "z", "zz", "nana", "hyphenation", "abcdefghijkl", rep("a", 6), rep("a", impl.MaxWord-1), rep("a", impl.MaxWord), rep("ab", impl.MaxWord/2))

// notParted are no words for patterns.
var notParted = []string{
	"", "A", "Z", "aB", "Ab", " ", "a b", " a", "a ", "1", "a1", "1a", ".", "a.", ".a", "a.b", "a-b", "-", "_", "`", "{", "@", "[", "\t", "ab\x00", "\xe9", "\u00e9", "a\u0301", "\uff41",
	rep("a", impl.MaxWord+1), rep("a", 1000),
}

// notPatterns are no patterns.
var notPatterns = []string{
	// Neither a letter nor a point.
	"", "0", "1", "9",
	// Two digits.
	"12", "12a", "a12", "a12b", "a1b23", ".12", "12.", ".12a", "a12.", "00a",
	// A point that is neither the first nor the last byte.
	"a.b", "1.a", "a.1", "1.1", "1.1.", "..a", "a..", "...", "..1", "1..", ".a.b", "a.b.", ".1..", "..1.", ".a.1",
	// Other bytes.
	"A", "Z", "aB", "a1B", " ", "a b", " a", "a ", "a-b", "-", "-1a", "_", "`", "{", "/", ":", "@", "[", ",a", "a\t", "\n", "\x00", "\xe9", "a\xe9", "\u00e9", "1\u00e9", "\uff11a", "\u0661a", "a\u00b2",
	// Too many bytes.
	"abcdefghijk", "a1a1a1a1a1a", "1a1a1a1a1a1", ".aaaaaaaaa.", ".1a1a1a1a1.", rep("a", 1000), rep("1a", 6),
}

// isPattern returns whether a text must be a pattern.
func isPattern(s string) bool {
	return len(s) <= impl.MaxPattern && patternShape.MatchString(s) && strings.Trim(s, "0123456789") != ""
}

// digitAt returns the digit that the pattern has at the place behind n letters of the word, the greatest one if it stands there in several ways.
func digitAt(word, pattern string, n int) int {
	ahead, behind := "."+word[:n], word[n:]+"."
	bare := strings.NewReplacer("0", "", "1", "", "2", "", "3", "", "4", "", "5", "", "6", "", "7", "", "8", "", "9", "")
	most := 0
	for i := range len(pattern) {
		if digit := int(pattern[i]) - '0'; digit >= 0 && digit <= 9 && strings.HasSuffix(ahead, bare.Replace(pattern[:i])) && strings.HasPrefix(behind, bare.Replace(pattern[i+1:])) {
			most = max(most, digit)
		}
	}
	return most
}

// levelsIn returns what LevelsOf must be.
func levelsIn(word string, list []string) []int {
	var levels []int
	for n := 1; n < len(word); n++ {
		most := 0
		for _, pattern := range list {
			most = max(most, digitAt(word, pattern, n))
		}
		levels = append(levels, most)
	}
	return levels
}

// hyphensIn returns what HyphensOf must be.
func hyphensIn(word string, list []string) string {
	out := word[:1]
	for i, level := range levelsIn(word, list) {
		if slices.Contains([]int{1, 3, 5, 7, 9}, level) && i+1 >= 2 && len(word)-i-1 >= 2 {
			out += "-"
		}
		out += word[i+1 : i+2]
	}
	return out
}

// brokenIn returns what BreakWord must be, out of the word with all its hyphens.
func brokenIn(hyphens string, room int) (string, string, bool) {
	parts := strings.Split(hyphens, "-")
	for n := len(parts) - 1; n > 0; n-- {
		if first := strings.Join(parts[:n], "") + "-"; len(first) <= room {
			return first, strings.Join(parts[n:], ""), true
		}
	}
	return "", "", false
}

// forHyphens tries words with lists of patterns: each one alone, some together, and as many as there can be.
func forHyphens(try func(word string, list []string)) {
	lists := [][]string{nil, {}}
	for i, pattern := range somePatterns {
		lists = append(lists, []string{pattern}, []string{pattern, pattern})
		for _, other := range somePatterns[:i] {
			lists = append(lists, []string{pattern, other})
		}
		if end := i + impl.MaxPatterns; end <= len(somePatterns) {
			lists = append(lists, somePatterns[i:end])
		}
	}
	for _, word := range someParted {
		for _, list := range lists {
			try(word, list)
		}
	}
}

// wantLevels reports levels that are not the ones wanted; nil and empty are the same.
func wantLevels(t *testing.T, word string, list []string, want []int) {
	t.Helper()
	if got := impl.LevelsOf(word, list); !slices.Equal(got, want) {
		t.Errorf("LevelsOf(%q, %q) = %d, want %d", word, list, got, want)
	}
}

// wantBroken reports parts of a word that are not the ones wanted.
func wantBroken(t *testing.T, word string, list []string, room int, first, rest string, there bool) {
	t.Helper()
	if x, y, ok := impl.BreakWord(word, list, room); x != first || y != rest || ok != there {
		t.Errorf("BreakWord(%q, %q, %d) = %q, %q, %v, want %q, %q, %v", word, list, room, x, y, ok, first, rest, there)
	}
}

// wantNoHyphens reports results for arguments that are not those of LevelsOf. The word of one letter has no levels either, so HyphensOf tells.
func wantNoHyphens(t *testing.T, word string, list []string) {
	t.Helper()
	wantLevels(t, word, list, nil)
	wantText(t, fmt.Sprintf("HyphensOf(%q, %q)", word, list), impl.HyphensOf(word, list), "")
	for _, room := range []int{0, 3, impl.MaxWord} {
		wantBroken(t, word, list, room, "", "", false)
	}
}

func TestLimitsOfHyphens(t *testing.T) {
	if impl.MaxPattern != 10 || impl.MaxPatterns != 8 || impl.MinAhead != 2 || impl.MinBehind != 2 {
		t.Errorf("limits = %d, %d, %d, %d", impl.MaxPattern, impl.MaxPatterns, impl.MinAhead, impl.MinBehind)
	}
}

// Promise 44.

func TestLevelsOf(t *testing.T) {
	for _, c := range []struct {
		word string
		list []string
		want []int
	}{
		{"a", nil, nil},
		{"a", []string{"1a1", ".1a1."}, nil},
		{"ab", nil, []int{0}},
		{"ab", []string{"a1b"}, []int{1}},
		{"ab", []string{"a0b"}, []int{0}},
		{"ab", []string{"a9b"}, []int{9}},
		{"ab", []string{"b1a"}, []int{0}},
		{"ab", []string{"ab"}, []int{0}},
		{"ab", []string{"c1"}, []int{0}},
		// One letter, with digits on both sides.
		{"ab", []string{"a1"}, []int{1}},
		{"ab", []string{"1b"}, []int{1}},
		{"banana", []string{"1a2"}, []int{1, 2, 1, 2, 1}},
		{"banana", []string{"1n"}, []int{0, 1, 0, 1, 0}},
		// The places ahead of the first letter and behind the last one are not between two.
		{"ab", []string{"1a"}, []int{0}},
		{"ab", []string{"b1"}, []int{0}},
		{"ab", []string{"1ab1"}, []int{0}},
		{"ab", []string{"1a2b3"}, []int{2}},
		// Points stand for the beginning and the end.
		{"ab", []string{".a1b."}, []int{1}},
		{"ab", []string{".1a2b3."}, []int{2}},
		{"ab", []string{".a1"}, []int{1}},
		{"ab", []string{"1b."}, []int{1}},
		{"ab", []string{".b1", ".1b", "1a.", "a1."}, []int{0}},
		{"aba", []string{".a1"}, []int{1, 0}},
		{"aba", []string{"1a."}, []int{0, 1}},
		{"aaa", []string{".a1a"}, []int{1, 0}},
		{"aaa", []string{"a1a."}, []int{0, 1}},
		{"aaa", []string{".a1a."}, []int{0, 0}},
		{"nana", []string{"2na.", ".n1a"}, []int{1, 2, 0}},
		{"aa", []string{".", "1.", ".1", ".1.", ".."}, []int{0}},
		// The greatest digit counts, wherever in the list its pattern is.
		{"ab", []string{"a3b", "a1b"}, []int{3}},
		{"ab", []string{"a1b", "a3b"}, []int{3}},
		{"ab", []string{"a4", "5b", "a3b"}, []int{5}},
		{"ab", []string{"a1b", "ab"}, []int{1}},
		{"ab", []string{"a1b", "a0b"}, []int{1}},
		// A pattern stands wherever it can, also over itself.
		{"aaaa", []string{"a1a"}, []int{1, 1, 1}},
		{"aaaa", []string{"1aa2"}, []int{1, 2, 2}},
		{"aaaa", []string{"2aa1"}, []int{2, 2, 1}},
		{"aaaa", []string{"a1aa"}, []int{1, 1, 0}},
		{"abab", []string{"a1b"}, []int{1, 0, 1}},
		{"banana", []string{"1na", "n2a", ".b3a"}, []int{3, 1, 2, 1, 2}},
		{"hyphenation", []string{"hy3ph", "he2n", "hena4", "hen5at", "1na", "n2at", "1tio", "2io"}, []int{0, 3, 0, 0, 2, 5, 4, 2, 0, 0}},
		// The limits.
		{"abcdefghijkl", []string{"abcdefghij"}, []int{0, 0, 0, 0, 0, 0, 0, 0, 0, 0, 0}},
		{"abcdefghijkl", []string{"h1i2j3k4l."}, []int{0, 0, 0, 0, 0, 0, 0, 1, 2, 3, 4}},
		{"abcdefghijkl", []string{".a1b2c3d4"}, []int{1, 2, 3, 4, 0, 0, 0, 0, 0, 0, 0}},
		{"abcde", []string{"a1b2c3d4e"}, []int{1, 2, 3, 4}},
		{"abcd", []string{"9a8b7c6d"}, []int{8, 7, 6}},
		{"ab", []string{"abcdefghij", "a1abababab"}, []int{0}},
		{"abc", slices.Repeat([]string{"a1b"}, impl.MaxPatterns), []int{1, 0}},
		{"abc", append(slices.Repeat([]string{"a1b"}, impl.MaxPatterns-1), "b2c."), []int{1, 2}},
		{"zaz", []string{"z1a2z"}, []int{1, 2}},
	} {
		wantLevels(t, c.word, c.list, c.want)
	}
}

func TestLevelsOfAllShortPatterns(t *testing.T) {
	patterns, others := 0, 0
	for _, s := range textsOver("ab.12", 4) {
		for _, word := range textsOver("ab", 4)[1:] {
			if isPattern(s) {
				patterns++
				wantLevels(t, word, []string{s}, levelsIn(word, []string{s}))
			} else {
				others++
				wantNoHyphens(t, word, []string{s})
			}
		}
	}
	if patterns < 1000 || others < 1000 {
		t.Errorf("%d are patterns, and %d are not", patterns, others)
	}
	for c := range 256 {
		b := string([]byte{byte(c)})
		for _, s := range []string{b, "a" + b, b + "a", "a" + b + "a", "1" + b, b + "1", ".a" + b} {
			if isPattern(s) {
				wantLevels(t, "aaa", []string{s}, levelsIn("aaa", []string{s}))
			} else {
				wantNoHyphens(t, "aaa", []string{s})
			}
		}
		word := "a" + b
		if c >= 'a' && c <= 'z' {
			wantLevels(t, word, []string{"a1"}, []int{1})
		} else {
			wantNoHyphens(t, word, []string{"a1"})
		}
	}
}

func TestHyphensOfOtherArguments(t *testing.T) {
	for _, word := range notParted {
		for _, list := range [][]string{nil, {"a1"}, {"1a", "1b"}, {"."}} {
			wantNoHyphens(t, word, list)
		}
	}
	words := []string{"a", "ab", "aaaa", "banana", rep("a", impl.MaxWord)}
	for _, word := range words {
		for _, s := range notPatterns {
			wantNoHyphens(t, word, []string{s})
			wantNoHyphens(t, word, []string{"1a", s})
			wantNoHyphens(t, word, []string{s, "1a"})
			wantNoHyphens(t, word, append(slices.Repeat([]string{"1a"}, impl.MaxPatterns-1), s))
		}
		for _, n := range []int{impl.MaxPatterns + 1, 100} {
			wantNoHyphens(t, word, slices.Repeat([]string{"1a"}, n))
			wantNoHyphens(t, word, slices.Repeat([]string{"."}, n))
		}
	}
}

func TestPatternsAtTheLimits(t *testing.T) {
	for n := range 2 * impl.MaxPattern {
		for _, s := range []string{rep("a", n), rep("a1", n/2), rep("1a", n/2) + rep("a", n%2), "." + rep("a", n), rep("a", n) + ".", "." + rep("2a", n/2) + "."} {
			if isPattern(s) {
				wantLevels(t, rep("a", impl.MaxWord), []string{s}, levelsIn(rep("a", impl.MaxWord), []string{s}))
			} else {
				wantNoHyphens(t, rep("a", impl.MaxWord), []string{s})
			}
		}
		if list := slices.Repeat([]string{"1a"}, n); n <= impl.MaxPatterns {
			wantLevels(t, "baa", list, levelsIn("baa", list))
		} else {
			wantNoHyphens(t, "baa", list)
		}
		if word := rep("a", n); n >= 1 && n <= impl.MaxWord {
			wantLevels(t, word, nil, make([]int, n-1))
		} else {
			wantNoHyphens(t, word, nil)
		}
	}
}

func TestPromise44MorePatternsRaiseLevels(t *testing.T) {
	forHyphens(func(word string, list []string) {
		levels := impl.LevelsOf(word, list)
		wantLevels(t, word, list, levelsIn(word, list))
		if len(levels) != len(word)-1 {
			t.Errorf("LevelsOf(%q, %q) = %d", word, list, levels)
			return
		}
		for i := range list {
			fewer := impl.LevelsOf(word, slices.Delete(slices.Clone(list), i, i+1))
			for j, level := range levels {
				if level < 0 || level > 9 || level < fewer[j] {
					t.Errorf("LevelsOf(%q, %q) = %d, without %q %d", word, list, levels, list[i], fewer)
				}
			}
		}
	})
}

// Promise 45.

func TestHyphensOf(t *testing.T) {
	for _, c := range []struct {
		word string
		list []string
		want string
	}{
		{"a", nil, "a"},
		{"a", []string{"1a1"}, "a"},
		{"banana", nil, "banana"},
		{"banana", []string{"1na"}, "ba-na-na"},
		{"banana", []string{"1na", "4na."}, "ba-nana"},
		{"banana", []string{"1na", "5na."}, "ba-na-na"},
		{"banana", []string{"1na", "2na"}, "banana"},
		{"hyphenation", []string{"hy3ph", "he2n", "hena4", "hen5at", "1na", "n2at", "1tio", "2io"}, "hy-phen-ation"},
		// At least two letters stand on both sides.
		{"ab", []string{"a1b"}, "ab"},
		{"abc", []string{"a1b1c"}, "abc"},
		{"abcd", []string{"a1b1c1d"}, "ab-cd"},
		{"abcde", []string{"a1b1c1d1e"}, "ab-c-de"},
		{"aaaa", []string{"1a"}, "aa-aa"},
		{rep("a", impl.MaxWord), []string{"1a1"}, "aa" + rep("-a", 8) + "-aa"},
		{"aabb", []string{"a1b", "1b."}, "aa-bb"},
		{"aabb", []string{".a1a"}, "aabb"},
		// Levels are odd or even.
		{"abcd", []string{"b0c"}, "abcd"},
		{"abcd", []string{"b1c"}, "ab-cd"},
		{"abcd", []string{"b2c"}, "abcd"},
		{"abcd", []string{"b3c"}, "ab-cd"},
		{"abcd", []string{"b4c"}, "abcd"},
		{"abcd", []string{"b5c"}, "ab-cd"},
		{"abcd", []string{"b6c"}, "abcd"},
		{"abcd", []string{"b7c"}, "ab-cd"},
		{"abcd", []string{"b8c"}, "abcd"},
		{"abcd", []string{"b9c"}, "ab-cd"},
		{"abcd", []string{"b9c", "b8c"}, "ab-cd"},
		{"abcd", []string{"b7c", "b8c"}, "abcd"},
		// Patterns at the ends of words.
		{"nana", []string{"1na."}, "na-na"},
		{"nanana", []string{"1na."}, "nana-na"},
		{"nanana", []string{".na1"}, "na-nana"},
		{"nanana", []string{".na1", "1na."}, "na-na-na"},
		{"nanana", []string{".na1na."}, "nanana"},
		{"nanana", []string{"1na", ".na2"}, "nana-na"},
	} {
		wantText(t, fmt.Sprintf("HyphensOf(%q, %q)", c.word, c.list), impl.HyphensOf(c.word, c.list), c.want)
	}
}

func TestPromise45HyphensAreAddedAndNothingElse(t *testing.T) {
	forHyphens(func(word string, list []string) {
		what := fmt.Sprintf("HyphensOf(%q, %q)", word, list)
		got := impl.HyphensOf(word, list)
		wantText(t, what, got, hyphensIn(word, list))
		wantText(t, what+" without hyphens", strings.ReplaceAll(got, "-", ""), word)
		n := 0
		for i, level := range impl.LevelsOf(word, list) {
			if level%2 == 1 && i+1 >= impl.MinAhead && len(word)-i-1 >= impl.MinBehind {
				n++
			}
		}
		if strings.Count(got, "-") != n {
			t.Errorf("%s = %q, want %d hyphens", what, got, n)
		}
	})
}

// Promise 46.

func TestBreakWord(t *testing.T) {
	for _, c := range []struct {
		word        string
		list        []string
		room        int
		first, rest string
		ok          bool
	}{
		{"banana", []string{"1na"}, 0, "", "", false},
		{"banana", []string{"1na"}, 1, "", "", false},
		{"banana", []string{"1na"}, 2, "", "", false},
		{"banana", []string{"1na"}, 3, "ba-", "nana", true},
		{"banana", []string{"1na"}, 4, "ba-", "nana", true},
		{"banana", []string{"1na"}, 5, "bana-", "na", true},
		// The room for the whole word changes nothing.
		{"banana", []string{"1na"}, 6, "bana-", "na", true},
		{"banana", []string{"1na"}, impl.MaxWord, "bana-", "na", true},
		{"banana", []string{"1na", "4na."}, impl.MaxWord, "ba-", "nana", true},
		{"banana", nil, impl.MaxWord, "", "", false},
		{"banana", []string{"2na"}, impl.MaxWord, "", "", false},
		{"a", []string{"1a1"}, impl.MaxWord, "", "", false},
		{"abc", []string{"a1b1c"}, impl.MaxWord, "", "", false},
		{"abcd", []string{"a1b1c1d"}, 2, "", "", false},
		{"abcd", []string{"a1b1c1d"}, 3, "ab-", "cd", true},
		{"abcd", []string{"a1b1c1d"}, 4, "ab-", "cd", true},
		{rep("a", impl.MaxWord), []string{"1a"}, impl.MaxWord, rep("a", 10) + "-", "aa", true},
		{rep("a", impl.MaxWord), []string{"1a"}, 11, rep("a", 10) + "-", "aa", true},
		{rep("a", impl.MaxWord), []string{"1a"}, 10, rep("a", 9) + "-", "aaa", true},
		// Rooms that are none.
		{"banana", []string{"1na"}, impl.MaxWord + 1, "", "", false},
		{"banana", []string{"1na"}, -1, "", "", false},
		{"banana", []string{"1na"}, math.MinInt, "", "", false},
		{"banana", []string{"1na"}, math.MaxInt, "", "", false},
	} {
		wantBroken(t, c.word, c.list, c.room, c.first, c.rest, c.ok)
	}
}

func TestPromise46BrokenWordsFitTheRoom(t *testing.T) {
	forHyphens(func(word string, list []string) {
		hyphens := impl.HyphensOf(word, list)
		size := 0
		for room := range impl.MaxWord + 1 {
			first, rest, ok := brokenIn(hyphens, room)
			wantBroken(t, word, list, room, first, rest, ok)
			got, behind, ok := impl.BreakWord(word, list, room)
			if ok && (len(got) > room || strings.TrimSuffix(got, "-")+behind != word) || len(got) < size {
				t.Errorf("BreakWord(%q, %q, %d) = %q, %q", word, list, room, got, behind)
			}
			size = len(got)
		}
		for _, room := range []int{-1, impl.MaxWord + 1} {
			wantBroken(t, word, list, room, "", "", false)
		}
	})
}

// The general conventions.

func TestPatternsAreNotChanged(t *testing.T) {
	room := []string{"1na", "n2a", "behind"}
	list := room[:2]
	for range 2 {
		levels := impl.LevelsOf("banana", list)
		if !slices.Equal(levels, []int{0, 1, 2, 1, 2}) {
			t.Errorf("LevelsOf = %d", levels)
		}
		levels[0] = 9
		_ = append(levels, 9, 9, 9)
		wantText(t, "HyphensOf", impl.HyphensOf("banana", list), "ba-na-na")
		wantBroken(t, "banana", list, 4, "ba-", "nana", true)
		wantList(t, "patterns", room, []string{"1na", "n2a", "behind"})
	}
}
