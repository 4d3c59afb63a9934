package tests

import (
	"fmt"
	"math"
	"slices"
	"sync"
	"testing"
	"testing/synctest"

	"loop.example/textsinlines/impl"
)

// notKinds are no kinds of changes.
var notKinds = []int{math.MinInt, -2, -1, 3, 4, 256, math.MaxInt}

// changesOf returns a change for each text: its line behind a = for one that is kept, a - for one that is left out, or a + for one that is put.
func changesOf(texts ...string) []impl.Change {
	kinds := map[byte]int{'=': impl.ChKeep, '-': impl.ChDrop, '+': impl.ChAdd}
	var list []impl.Change
	for _, text := range texts {
		list = append(list, impl.Change{Kind: kinds[text[0]], Line: text[1:]})
	}
	return list
}

// linesBut returns the lines of the changes that are not of a kind.
func linesBut(kind int, list []impl.Change) []string {
	var lines []string
	for _, c := range list {
		if c.Kind != kind {
			lines = append(lines, c.Line)
		}
	}
	return lines
}

// countKept returns how many changes keep a line.
func countKept(list []impl.Change) int {
	n := 0
	for _, c := range list {
		if c.Kind == impl.ChKeep {
			n++
		}
	}
	return n
}

// standsIn reports whether all lines stand in others in their order.
func standsIn(lines, others []string) bool {
	for _, line := range lines {
		i := slices.Index(others, line)
		if i < 0 {
			return false
		}
		others = others[i+1:]
	}
	return true
}

// commonByChoice returns what CommonOf must be, of all choices of lines of a.
func commonByChoice(a, b []string) int {
	most := 0
	for choice := range 1 << len(a) {
		var lines []string
		for i, line := range a {
			if choice>>i&1 == 1 {
				lines = append(lines, line)
			}
		}
		if len(lines) > most && standsIn(lines, b) {
			most = len(lines)
		}
	}
	return most
}

// commonByRows returns what CommonOf must be, line by line, for more lines than there can be choices of.
func commonByRows(a, b []string) int {
	row := make([]int, len(b)+1)
	for _, x := range a {
		next := make([]int, len(b)+1)
		for j, y := range b {
			next[j+1] = max(next[j], row[j+1])
			if x == y {
				next[j+1] = max(next[j+1], row[j]+1)
			}
		}
		row = next
	}
	return row[len(b)]
}

// changesBetween returns what ChangesOf must be.
func changesBetween(a, b []string) []impl.Change {
	switch {
	case len(a) == 0 && len(b) == 0:
		return nil
	case len(a) > 0 && len(b) > 0 && a[0] == b[0]:
		return append(changesOf("="+a[0]), changesBetween(a[1:], b[1:])...)
	case len(a) > 0 && (len(b) == 0 || commonByRows(a[1:], b) >= commonByRows(a, b[1:])):
		return append(changesOf("-"+a[0]), changesBetween(a[1:], b)...)
	}
	return append(changesOf("+"+b[0]), changesBetween(a, b[1:])...)
}

// mixed returns n lines of so many different ones, in an order that its step sets.
func mixed(n, different, step int) []string {
	var lines []string
	for i := range n {
		lines = append(lines, fmt.Sprintf("line %d", (i*i*step+i/2)%different))
	}
	return lines
}

// longPairs returns pairs of many lines, up to the limit.
func longPairs() [][2][]string {
	pairs := [][2][]string{
		{numberedLines("a", impl.MaxLines), numberedLines("b", impl.MaxLines)},
		{numberedLines("a", impl.MaxLines), nil},
		{numberedLines("a", impl.MaxLines), {"a 19"}},
		{repLines("x", impl.MaxLines), repLines("x", impl.MaxLines-1)},
		{repLines("", impl.MaxLines), append(repLines(" ", impl.MaxLines-1), "")},
		{repLines(full, impl.MaxLines), append(repLines(full[1:], impl.MaxLines-1), full)},
	}
	for _, n := range []int{6, 13, impl.MaxLines - 1, impl.MaxLines} {
		for _, different := range []int{2, 3, 5, 11} {
			for step := range 5 {
				pairs = append(pairs, [2][]string{mixed(n, different, step), mixed(impl.MaxLines, different, step+1)})
			}
		}
	}
	return pairs
}

// numberedLines returns n lines that are different, and begin with the name.
func numberedLines(name string, n int) []string {
	var lines []string
	for i := range n {
		lines = append(lines, fmt.Sprintf("%s %d", name, i))
	}
	return lines
}

// forPairs tries all pairs of a few lines, and pairs of many, each both ways.
func forPairs(try func(a, b []string)) {
	lists := listsOver([]string{"a", "b", ""}, 4)
	for _, a := range lists {
		for _, b := range lists {
			try(a, b)
		}
	}
	for _, pair := range longPairs() {
		try(pair[0], pair[1])
		try(pair[1], pair[0])
		try(pair[0], pair[0])
	}
}

// wantChanges reports changes that are not the ones wanted; nil and empty are the same.
func wantChanges(t *testing.T, what string, got, want []impl.Change) {
	t.Helper()
	if !slices.Equal(got, want) {
		t.Errorf("%s = %+v, want %+v", what, got, want)
	}
}

func TestLimitsOfChanges(t *testing.T) {
	if impl.ChKeep != 0 || impl.ChDrop != 1 || impl.ChAdd != 2 {
		t.Errorf("kinds = %d, %d, %d", impl.ChKeep, impl.ChDrop, impl.ChAdd)
	}
}

// Promise 40.

func TestCommonOf(t *testing.T) {
	for _, c := range []struct {
		a, b []string
		want int
	}{
		{nil, nil, 0},
		{[]string{"a"}, nil, 0},
		{[]string{"a"}, []string{"a"}, 1},
		{[]string{""}, []string{""}, 1},
		{[]string{"", ""}, []string{""}, 1},
		{[]string{"a", "b"}, []string{"c", "d"}, 0},
		{[]string{"a", "b"}, []string{"b", "a"}, 1},
		{[]string{"a", "x", "b"}, []string{"a", "b"}, 2},
		{[]string{"a", "x", "b"}, []string{"y", "a", "z", "z", "b"}, 2},
		{[]string{"a", "b", "c"}, []string{"c", "b", "a"}, 1},
		{[]string{"a", "b", "c", "d"}, []string{"c", "d", "a", "b"}, 2},
		{[]string{"a", "b", "c", "d", "e"}, []string{"d", "a", "e", "b", "c"}, 3},
		{[]string{"a", "a", "a"}, []string{"a", "a"}, 2},
		{[]string{"a", "b", "a", "b"}, []string{"b", "a", "b", "a"}, 3},
		// Lines are compared byte by byte.
		{[]string{"a"}, []string{"A"}, 0},
		{[]string{"a"}, []string{"a "}, 0},
		{[]string{"a"}, []string{" a"}, 0},
		{[]string{" "}, []string{""}, 0},
		{[]string{"ab"}, []string{"a", "b"}, 0},
		{[]string{full}, []string{full[1:] + "y"}, 0},
		{repLines(full, impl.MaxLines), repLines(full, impl.MaxLines), impl.MaxLines},
		{numberedLines("a", impl.MaxLines), numberedLines("a", impl.MaxLines), impl.MaxLines},
		{numberedLines("a", impl.MaxLines), numberedLines("b", impl.MaxLines), 0},
		{numberedLines("a", impl.MaxLines), []string{"a 0", "a 19"}, 2},
		{numberedLines("a", impl.MaxLines), []string{"a 19", "a 0"}, 1},
	} {
		if got := impl.CommonOf(c.a, c.b); got != c.want {
			t.Errorf("CommonOf(%q, %q) = %d, want %d", c.a, c.b, got, c.want)
		}
	}
}

func TestChangesOfOtherLines(t *testing.T) {
	want := func(a, b []string) {
		t.Helper()
		if got := impl.CommonOf(a, b); got != -1 {
			t.Errorf("CommonOf(%q, %q) = %d", a, b, got)
		}
		wantChanges(t, fmt.Sprintf("ChangesOf(%q, %q)", a, b), impl.ChangesOf(a, b), nil)
	}
	for _, bad := range notLists() {
		for _, good := range [][]string{nil, {"a"}, {"a", "a"}, repLines("a", impl.MaxLines)} {
			want(bad, good)
			want(good, bad)
		}
		want(bad, bad)
	}
}

func TestPromise40CommonIsSoBothWays(t *testing.T) {
	forPairs(func(a, b []string) {
		got := impl.CommonOf(a, b)
		if len(a) < 6 && got != commonByChoice(a, b) || got != commonByRows(a, b) {
			t.Errorf("CommonOf(%q, %q) = %d, want %d", a, b, got, commonByRows(a, b))
		}
		if turned := impl.CommonOf(b, a); turned != got {
			t.Errorf("CommonOf(%q, %q) = %d, but %d the other way", a, b, got, turned)
		}
		if got > min(len(a), len(b)) {
			t.Errorf("CommonOf(%q, %q) = %d", a, b, got)
		}
		if own := impl.CommonOf(a, slices.Clone(a)); own != len(a) {
			t.Errorf("CommonOf %q and themselves = %d", a, own)
		}
	})
}

// Promise 41.

func TestChangesOf(t *testing.T) {
	for _, c := range []struct {
		a, b []string
		want []impl.Change
	}{
		{nil, nil, nil},
		{nil, []string{"a", "b"}, changesOf("+a", "+b")},
		{[]string{"a", "b"}, nil, changesOf("-a", "-b")},
		{[]string{"a", "b"}, []string{"a", "b"}, changesOf("=a", "=b")},
		{[]string{"", ""}, []string{"", ""}, changesOf("=", "=")},
		// Nothing is in common: what can be left out goes first.
		{[]string{"a"}, []string{"b"}, changesOf("-a", "+b")},
		{[]string{"a", "b"}, []string{"c", "d", "e"}, changesOf("-a", "-b", "+c", "+d", "+e")},
		{[]string{"a"}, []string{"a "}, changesOf("-a", "+a ")},
		{[]string{"a"}, []string{"A"}, changesOf("-a", "+A")},
		// As much is in common either way.
		{[]string{"a", "b"}, []string{"b", "a"}, changesOf("-a", "=b", "+a")},
		{[]string{"", "a"}, []string{"a", ""}, changesOf("-", "=a", "+")},
		{[]string{"x", "a"}, []string{"y", "a"}, changesOf("-x", "+y", "=a")},
		// Less is in common if a line is left out first.
		{[]string{"a"}, []string{"b", "a"}, changesOf("+b", "=a")},
		{[]string{"a", "b"}, []string{"c", "d", "a", "b"}, changesOf("+c", "+d", "=a", "=b")},
		{[]string{"a", "b", "c"}, []string{"c", "a", "b"}, changesOf("+c", "=a", "=b", "-c")},
		// More is in common if it is.
		{[]string{"b", "a"}, []string{"a"}, changesOf("-b", "=a")},
		{[]string{"c", "a", "b"}, []string{"a", "b", "c"}, changesOf("-c", "=a", "=b", "+c")},
		{[]string{"x", "y", "z"}, []string{"y", "w", "z"}, changesOf("-x", "=y", "+w", "=z")},
		// Lines that are the same are kept at once.
		{[]string{"a"}, []string{"a", "a"}, changesOf("=a", "+a")},
		{[]string{"a", "a"}, []string{"a"}, changesOf("=a", "-a")},
		{[]string{"a", "b", "a"}, []string{"a"}, changesOf("=a", "-b", "-a")},
	} {
		wantChanges(t, fmt.Sprintf("ChangesOf(%q, %q)", c.a, c.b), impl.ChangesOf(c.a, c.b), c.want)
	}
}

func TestPromise41ChangesMakeTheOthers(t *testing.T) {
	forPairs(func(a, b []string) {
		what := fmt.Sprintf("ChangesOf(%q, %q)", a, b)
		list := impl.ChangesOf(a, b)
		wantChanges(t, what, list, changesBetween(a, b))
		got, ok := impl.ApplyChanges(a, list)
		wantTrue(t, "ApplyChanges of "+what, got, ok, b)
		if n := countKept(list); n != impl.CommonOf(a, b) {
			t.Errorf("%s keeps %d lines", what, n)
		}
	})
}

func TestChangesAtTheLimit(t *testing.T) {
	a, b := numberedLines("a", impl.MaxLines), numberedLines("b", impl.MaxLines)
	list := impl.ChangesOf(a, b)
	if len(list) != 2*impl.MaxLines {
		t.Errorf("%d changes of %d lines", len(list), impl.MaxLines)
	}
	wantList(t, "lines left out", linesBut(impl.ChAdd, list), a)
	wantList(t, "lines put", linesBut(impl.ChDrop, list), b)
	list = impl.ChangesOf(a, a)
	if len(list) != impl.MaxLines || countKept(list) != impl.MaxLines {
		t.Errorf("changes of the same lines = %+v", list)
	}
}

// Promise 42.

func TestApplyChanges(t *testing.T) {
	many := numberedLines("a", impl.MaxLines)
	for _, c := range []struct {
		a    []string
		list []impl.Change
		want []string
	}{
		{nil, nil, nil},
		{nil, changesOf("+a"), []string{"a"}},
		{nil, changesOf("+"), []string{""}},
		{[]string{"a"}, changesOf("=a"), []string{"a"}},
		{[]string{"a"}, changesOf("-a"), nil},
		{[]string{""}, changesOf("="), []string{""}},
		{[]string{""}, changesOf("-"), nil},
		{[]string{"a", "b"}, changesOf("-a", "=b", "+c"), []string{"b", "c"}},
		{[]string{"a", "b"}, changesOf("+x", "=a", "+y", "=b", "+z"), []string{"x", "a", "y", "b", "z"}},
		{[]string{"a", "b"}, changesOf("=a", "-b"), []string{"a"}},
		{[]string{"a", "a"}, changesOf("-a", "=a"), []string{"a"}},
		// Changes need not be the fewest, nor in the order of ChangesOf.
		{[]string{"a"}, changesOf("-a", "+a"), []string{"a"}},
		{[]string{"a"}, changesOf("+a", "-a"), []string{"a"}},
		{[]string{"a", "b"}, changesOf("+b", "-a", "+a", "-b"), []string{"b", "a"}},
		{[]string{full}, changesOf("="+full, "+"+full), []string{full, full}},
		{nil, slices.Repeat(changesOf("+a"), impl.MaxLines), repLines("a", impl.MaxLines)},
		{many, impl.ChangesOf(many, many), many},
		{many, impl.ChangesOf(many, nil), nil},
		{repLines("a", impl.MaxLines), slices.Repeat(changesOf("+b", "-a"), impl.MaxLines), repLines("b", impl.MaxLines)},
		{repLines("a", impl.MaxLines), slices.Concat(changesOf("+b", "-a"), slices.Repeat(changesOf("=a"), impl.MaxLines-1)), append([]string{"b"}, repLines("a", impl.MaxLines-1)...)},
	} {
		got, ok := impl.ApplyChanges(c.a, c.list)
		wantTrue(t, fmt.Sprintf("ApplyChanges(%q, %+v)", c.a, c.list), got, ok, c.want)
	}
}

// wantNotApplied reports lines that become of changes, but must not.
func wantNotApplied(t *testing.T, a []string, list []impl.Change) {
	t.Helper()
	got, ok := impl.ApplyChanges(a, list)
	wantFalse(t, fmt.Sprintf("ApplyChanges(%q, %+v)", a, list), got, ok)
}

func TestApplyChangesThatDoNotFit(t *testing.T) {
	ab := []string{"a", "b"}
	for _, c := range []struct {
		a    []string
		list []impl.Change
	}{
		// Lines are left.
		{ab, nil},
		{ab, changesOf("=a")},
		{ab, changesOf("-a")},
		{ab, changesOf("+a", "+b")},
		{ab, changesOf("=a", "+b")},
		{[]string{""}, nil},
		// There is no next line.
		{nil, changesOf("=a")},
		{nil, changesOf("-a")},
		{nil, changesOf("=")},
		{nil, changesOf("-")},
		{nil, changesOf("+a", "=a")},
		{nil, changesOf("+a", "-a")},
		{ab, changesOf("=a", "=b", "=b")},
		{ab, changesOf("=a", "-b", "-b")},
		// The next line is another one.
		{ab, changesOf("=b", "=a")},
		{ab, changesOf("-b", "=a")},
		{ab, changesOf("=a", "-a")},
		{ab, changesOf("=a", "=B")},
		{ab, changesOf("=a", "-b ")},
		{ab, changesOf("=a", "=")},
		{ab, changesOf("-", "=b")},
		{[]string{"a"}, changesOf("=a ")},
		{[]string{""}, changesOf("= ")},
		// More lines become of them than there can be.
		{nil, slices.Repeat(changesOf("+a"), impl.MaxLines+1)},
		{nil, slices.Repeat(changesOf("+"), 2*impl.MaxLines)},
		{repLines("a", impl.MaxLines), append(slices.Repeat(changesOf("=a"), impl.MaxLines), changesOf("+b")...)},
		{[]string{"a"}, append(slices.Repeat(changesOf("+a"), impl.MaxLines), changesOf("=a")...)},
		{repLines("a", impl.MaxLines), slices.Repeat(changesOf("=a", "+a"), impl.MaxLines)},
	} {
		wantNotApplied(t, c.a, c.list)
	}
}

func TestApplyChangesOfOtherArguments(t *testing.T) {
	for _, bad := range notLists() {
		wantNotApplied(t, bad, nil)
		wantNotApplied(t, bad, changesOf("+a"))
		for _, kind := range []string{"=", "-"} {
			var list []impl.Change
			for _, line := range bad {
				list = append(list, changesOf(kind+line)...)
			}
			wantNotApplied(t, bad, list)
		}
	}
	for _, list := range notChanges() {
		wantNotApplied(t, nil, list)
		wantNotApplied(t, []string{"a"}, list)
		wantNotApplied(t, linesBut(impl.ChAdd, list), list)
	}
}

// notChanges returns lists that are no changes: too many, or with one that has no kind or no line.
func notChanges() [][]impl.Change {
	lists := [][]impl.Change{
		slices.Repeat(changesOf("-a", "+a"), impl.MaxLines+1),
		slices.Repeat(changesOf("=a"), 2*impl.MaxLines+1),
		slices.Repeat(changesOf("+a"), 2*impl.MaxLines+1),
		slices.Repeat(changesOf("-a"), 1000),
	}
	for _, kind := range notKinds {
		bad := impl.Change{Kind: kind, Line: "a"}
		lists = append(lists, []impl.Change{bad}, []impl.Change{{Kind: kind}}, append(changesOf("=a"), bad), append([]impl.Change{bad}, changesOf("+a")...))
	}
	for _, line := range notTexts() {
		for _, kind := range []string{"=", "-", "+"} {
			lists = append(lists, changesOf(kind+line), changesOf("=a", kind+line), changesOf(kind+line, "=a"))
		}
	}
	return lists
}

func TestPromise42ChangesAreTakenBack(t *testing.T) {
	applied := 0
	var lists [][]impl.Change
	for _, texts := range listsOver([]string{"=a", "-a", "+a", "=", "-", "+"}, 5) {
		lists = append(lists, changesOf(texts...))
	}
	for _, a := range listsOver([]string{"a", ""}, 3) {
		for _, list := range lists {
			what := fmt.Sprintf("ApplyChanges(%q, %+v)", a, list)
			b, ok := impl.ApplyChanges(a, list)
			if !slices.Equal(linesBut(impl.ChAdd, list), a) {
				wantFalse(t, what, b, ok)
				continue
			}
			applied++
			wantTrue(t, what, b, ok, linesBut(impl.ChDrop, list))
			again, ok := impl.ApplyChanges(b, impl.TurnChanges(list))
			wantTrue(t, what+" taken back", again, ok, a)
		}
	}
	if applied < 1000 {
		t.Errorf("%d are applied", applied)
	}
	forPairs(func(a, b []string) {
		got, ok := impl.ApplyChanges(b, impl.TurnChanges(impl.ChangesOf(a, b)))
		wantTrue(t, fmt.Sprintf("changes of %q to %q taken back", a, b), got, ok, a)
	})
}

// Promise 43.

func TestTurnChanges(t *testing.T) {
	for _, c := range []struct{ list, want []impl.Change }{
		{nil, nil},
		{changesOf("=a"), changesOf("=a")},
		{changesOf("-a"), changesOf("+a")},
		{changesOf("+a"), changesOf("-a")},
		{changesOf("+", "-", "="), changesOf("-", "+", "=")},
		{changesOf("-a", "=b", "+c", "+d"), changesOf("+a", "=b", "-c", "-d")},
		{changesOf("+" + full), changesOf("-" + full)},
		{slices.Repeat(changesOf("+a", "-b"), impl.MaxLines), slices.Repeat(changesOf("-a", "+b"), impl.MaxLines)},
		// These are changes, though of no lines.
		{slices.Repeat(changesOf("+a"), 2*impl.MaxLines), slices.Repeat(changesOf("-a"), 2*impl.MaxLines)},
		{slices.Repeat(changesOf("=a"), 2*impl.MaxLines), slices.Repeat(changesOf("=a"), 2*impl.MaxLines)},
	} {
		wantChanges(t, fmt.Sprintf("TurnChanges(%+v)", c.list), impl.TurnChanges(c.list), c.want)
	}
	for _, list := range notChanges() {
		wantChanges(t, fmt.Sprintf("TurnChanges(%+v)", list), impl.TurnChanges(list), nil)
	}
}

func TestPromise43TurnedTwiceTheyAreTheSame(t *testing.T) {
	for _, texts := range listsOver([]string{"=a", "-a", "+a", "=", "-", "+"}, 4) {
		list := changesOf(texts...)
		wantChanges(t, fmt.Sprintf("TurnChanges twice of %+v", list), impl.TurnChanges(impl.TurnChanges(list)), list)
	}
	forPairs(func(a, b []string) {
		list := impl.ChangesOf(a, b)
		wantChanges(t, fmt.Sprintf("TurnChanges twice of %+v", list), impl.TurnChanges(impl.TurnChanges(list)), list)
	})
}

// The general conventions.

func TestChangesAreNotChanged(t *testing.T) {
	roomA, roomB := []string{"a", "b", "behind"}, []string{"b", "c", "behind"}
	a, b := roomA[:2], roomB[:2]
	room := changesOf("-a", "=b", "+c", "+behind")
	list := room[:3]
	for range 2 {
		if n := impl.CommonOf(a, b); n != 1 {
			t.Errorf("CommonOf = %d", n)
		}
		made := impl.ChangesOf(a, b)
		wantChanges(t, "ChangesOf", made, list)
		lines, ok := impl.ApplyChanges(a, list)
		wantTrue(t, "ApplyChanges", lines, ok, []string{"b", "c"})
		kept, ok := impl.ApplyChanges(a, changesOf("=a", "=b"))
		wantTrue(t, "ApplyChanges", kept, ok, []string{"a", "b"})
		turned := impl.TurnChanges(list)
		wantChanges(t, "TurnChanges", turned, changesOf("+a", "=b", "-c"))
		// What is done to results is seen by nobody else.
		for _, result := range [][]impl.Change{made, turned} {
			result[0] = impl.Change{}
			_ = append(result, impl.Change{})
		}
		for _, result := range [][]string{lines, kept} {
			result[0] = "changed"
			_ = append(result, "changed")
		}
		wantList(t, "a", roomA, []string{"a", "b", "behind"})
		wantList(t, "b", roomB, []string{"b", "c", "behind"})
		wantChanges(t, "list", room, changesOf("-a", "=b", "+c", "+behind"))
	}
}

// TestChangesLeaveNobodyWaiting fails if ChangesOf leaves a goroutine behind that waits.
func TestChangesLeaveNobodyWaiting(t *testing.T) {
	synctest.Test(t, func(t *testing.T) {
		for _, pair := range longPairs() {
			impl.ChangesOf(pair[0], pair[1])
			impl.ChangesOf(pair[0], []string{"\t"})
		}
	})
}

func TestChangesOfManyAtOnce(t *testing.T) {
	pairs := longPairs()
	var wait sync.WaitGroup
	for range 50 {
		for _, pair := range pairs {
			wait.Go(func() {
				wantChanges(t, "ChangesOf at once", impl.ChangesOf(pair[0], pair[1]), changesBetween(pair[0], pair[1]))
			})
		}
	}
	wait.Wait()
}
