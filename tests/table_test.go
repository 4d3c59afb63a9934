package tests

import (
	"fmt"
	"math"
	"slices"
	"strings"
	"testing"

	"loop.example/textsinlines/impl"
)

// wide is a cell as long as one can be.
var wide = rep("c", impl.MaxCell)

// notHows are no ways to pad cells.
var notHows = []string{"", " ", "Left", "LEFT", "left ", " right", "center", "centre", "middl", "justify", "\x00"}

// notCells returns lists that are no cells of a row: none, too many, or with one that is no cell.
func notCells() [][]string {
	lists := [][]string{nil, {}, repLines("a", impl.MaxCells+1), repLines("", impl.MaxCells+1), repLines("a", 1000)}
	for _, s := range append(notTexts(), wide+"c", rep(" ", impl.MaxCell+1), full, rep("a ", 9), "seventeen bytes !", wide[1:]+"\t", "a\nb") {
		lists = append(lists, []string{s}, []string{"a", s}, []string{s, ""}, append(repLines("a", impl.MaxCells-1), s))
	}
	return lists
}

// someCells returns cells of many shapes, with their limits, commas, quotes and spaces.
func someCells() [][]string {
	lists := listsOver([]string{"", "a", " ", "b c", " d ", ",", `"`, `""`, "|", " | "}, 3)[1:]
	for _, cell := range append(textsOver(`a ",|`, 3), allPlainCells()...) {
		lists = append(lists, []string{cell}, []string{cell, "x"}, []string{"", cell}, repLines(cell, impl.MaxCells))
	}
	for _, b := range ` ",ac|~` {
		lists = append(lists, repLines(rep(string(b), impl.MaxCell), impl.MaxCells), []string{rep(string(b), impl.MaxCell-1), ""})
	}
	return lists
}

// allPlainCells returns cells that have every byte of a text, each cell as long as one can be, and each byte alone.
func allPlainCells() []string {
	var cells []string
	for chunk := range slices.Chunk([]byte(allPlain()), impl.MaxCell) {
		cells = append(cells, string(chunk))
	}
	for _, b := range allPlain() {
		cells = append(cells, string(b))
	}
	return cells
}

// someTables returns tables of many shapes, with their limits: no rows, one cell, and as many as there can be.
func someTables() [][][]string {
	tables := [][][]string{nil, {}}
	for _, cells := range someCells() {
		tables = append(tables, [][]string{cells}, [][]string{cells, cells}, [][]string{repLines("", len(cells)), cells})
	}
	for _, flat := range listsOver([]string{"", "a", " bb", "|"}, 4) {
		if len(flat) == 4 {
			tables = append(tables, [][]string{flat[:2], flat[2:]}, [][]string{flat[:1], flat[1:2], flat[2:3], flat[3:]})
		}
	}
	for n := 1; n <= impl.MaxRows; n++ {
		for m := 1; m <= impl.MaxCells; m++ {
			tables = append(tables, numbered(n, m), slices.Repeat([][]string{repLines(wide, m)}, n), slices.Repeat([][]string{repLines("", m)}, n))
		}
	}
	return tables
}

// numbered returns a table of n rows of m cells that are all different, and of different lengths.
func numbered(n, m int) [][]string {
	var rows [][]string
	for i := range n {
		var cells []string
		for j := range m {
			cells = append(cells, fmt.Sprintf("%d%d", i, j)+rep("x", (i*7+j*5)%(impl.MaxCell-1)))
		}
		rows = append(rows, cells)
	}
	return rows
}

// notTables returns rows that are no table: too many, of different numbers of cells, or with one that has no cells, or others than it may.
func notTables() [][][]string {
	tables := [][][]string{
		slices.Repeat([][]string{{"a"}}, impl.MaxRows+1),
		slices.Repeat([][]string{{"a", ""}}, 1000),
		{{"a"}, {"a", "b"}},
		{{"a", "b"}, {"a"}},
		{{"a", "b"}, {"a", "b"}, {"a", "b", "c"}},
		{{"a", "b"}, {"a", "b", "c"}, {"a", "b"}},
		{{"a"}, {}},
		{{}, {"a"}},
		{nil, nil},
		slices.Repeat([][]string{nil}, impl.MaxRows),
	}
	for _, cells := range notCells() {
		tables = append(tables, [][]string{cells}, [][]string{cells, cells})
		if len(cells) > 0 {
			tables = append(tables, [][]string{repLines("a", len(cells)), cells}, [][]string{cells, repLines("a", len(cells))})
		}
	}
	return tables
}

// wantRows reports a table that is not the one wanted, or that comes with false.
func wantRows(t *testing.T, what string, got [][]string, ok bool, want [][]string) {
	t.Helper()
	if !ok {
		t.Errorf("%s is false", what)
	}
	wantParts(t, what, got, want)
}

// wantNoRows reports a table that comes with true, or with false but has rows.
func wantNoRows(t *testing.T, what string, got [][]string, ok bool) {
	t.Helper()
	if ok || len(got) != 0 {
		t.Errorf("%s = %q, %v", what, got, ok)
	}
}

// columnOf returns the cells of a column of a table.
func columnOf(rows [][]string, j int) []string {
	var cells []string
	for _, row := range rows {
		cells = append(cells, row[j])
	}
	return cells
}

// sizeOfRow returns the number of columns of a table, 0 for no rows.
func sizeOfRow(rows [][]string) int {
	return len(slices.Concat(rows[:min(len(rows), 1)]...))
}

func TestLimitsOfTables(t *testing.T) {
	if impl.MaxRows != 6 || impl.MaxCells != 5 || impl.MaxCell != 16 || impl.MaxLine != 180 {
		t.Errorf("limits = %d, %d, %d, %d", impl.MaxRows, impl.MaxCells, impl.MaxCell, impl.MaxLine)
	}
}

// Promise 26.

func TestValidRows(t *testing.T) {
	for _, rows := range someTables() {
		if !impl.ValidRows(rows) {
			t.Errorf("ValidRows(%q) = false", rows)
		}
	}
	for _, rows := range notTables() {
		if impl.ValidRows(rows) {
			t.Errorf("ValidRows(%q) = true", rows)
		}
	}
}

func TestValidRowsAtTheLimits(t *testing.T) {
	most := slices.Repeat([][]string{repLines(wide, impl.MaxCells)}, impl.MaxRows)
	if !impl.ValidRows(most) {
		t.Error("the greatest table is none")
	}
	if impl.ValidRows(append(slices.Clone(most), most[0])) {
		t.Error("a table has a row more")
	}
	if impl.ValidRows([][]string{append(slices.Clone(most[0]), "")}) {
		t.Error("a table has a column more")
	}
	for i := range most {
		for j := range most[i] {
			rows := slices.Clone(most)
			rows[i] = slices.Clone(most[i])
			for _, bad := range []string{wide + "c", wide[1:] + "\x7f", "\x1f"} {
				rows[i][j] = bad
				if impl.ValidRows(rows) {
					t.Errorf("ValidRows(%q) = true", rows)
				}
			}
			rows[i] = slices.Delete(rows[i], j, j+1)
			if impl.ValidRows(rows) {
				t.Errorf("ValidRows(%q) = true", rows)
			}
		}
	}
}

func TestPromise26TablesCanBeCut(t *testing.T) {
	for _, rows := range someTables() {
		for n := range rows {
			if !impl.ValidRows(rows[:n]) {
				t.Errorf("ValidRows(%q) = false, but with rows behind it is true", rows[:n])
			}
		}
	}
}

// Promise 27.

func TestColumnWidths(t *testing.T) {
	for _, c := range []struct {
		rows [][]string
		want []int
	}{
		{nil, nil},
		{[][]string{}, nil},
		{[][]string{{""}}, []int{0}},
		{[][]string{{"", " ", "ab"}}, []int{0, 1, 2}},
		{[][]string{{"a", "long", "1"}, {"bcd", "", "22"}}, []int{3, 4, 2}},
		{[][]string{{"  "}, {"a"}, {""}}, []int{2}},
		{[][]string{{`"`, ",", "||"}}, []int{1, 1, 2}},
		{slices.Repeat([][]string{repLines(wide, impl.MaxCells)}, impl.MaxRows), []int{16, 16, 16, 16, 16}},
		{[][]string{{"a"}, {"b"}, {"c"}, {"d"}, {"e"}, {wide}}, []int{16}},
	} {
		if got := impl.ColumnWidths(c.rows); !slices.Equal(got, c.want) {
			t.Errorf("ColumnWidths(%q) = %v, want %v", c.rows, got, c.want)
		}
	}
	for _, rows := range notTables() {
		if got := impl.ColumnWidths(rows); len(got) != 0 {
			t.Errorf("ColumnWidths(%q) = %v, want none", rows, got)
		}
	}
}

func TestPromise27ColumnsAreAsWideAsTheirLongestCells(t *testing.T) {
	for _, rows := range someTables() {
		widths := impl.ColumnWidths(rows)
		if len(widths) != sizeOfRow(rows) {
			t.Errorf("ColumnWidths(%q) = %v", rows, widths)
			continue
		}
		for j, width := range widths {
			if want := sizeOf(columnOf(rows, j)); width != want {
				t.Errorf("ColumnWidths(%q) = %v, want %d at %d", rows, widths, want, j)
			}
		}
	}
}

// Promise 28.

func TestRenderRows(t *testing.T) {
	rows := [][]string{{"a", "long", "1"}, {"bcd", "", "22"}}
	for _, c := range []struct {
		rows [][]string
		hows []string
		want []string
	}{
		{nil, nil, nil},
		{[][]string{}, []string{}, nil},
		{[][]string{{""}}, []string{"left"}, []string{""}},
		{[][]string{{"", ""}}, []string{"left", "right"}, []string{" | "}},
		{[][]string{{"a"}}, []string{"middle"}, []string{"a"}},
		{[][]string{{"a"}, {"bbbb"}}, []string{"left"}, []string{"a   ", "bbbb"}},
		{[][]string{{"a"}, {"bbbb"}}, []string{"right"}, []string{"   a", "bbbb"}},
		{[][]string{{"a"}, {"bbbb"}}, []string{"middle"}, []string{" a  ", "bbbb"}},
		{rows, []string{"left", "middle", "right"}, []string{"a   | long |  1", "bcd |      | 22"}},
		{rows, []string{"right", "left", "middle"}, []string{"  a | long | 1 ", "bcd |      | 22"}},
		{rows, []string{"middle", "right", "left"}, []string{" a  | long | 1 ", "bcd |      | 22"}},
		{[][]string{{"a b", "|"}, {" ", " | "}}, []string{"left", "right"}, []string{"a b |   |", "    |  | "}},
		{[][]string{{`"`, ","}}, []string{"left", "left"}, []string{`" | ,`}},
		{slices.Repeat([][]string{repLines(wide, impl.MaxCells)}, impl.MaxRows), repLines("middle", impl.MaxCells), repLines(strings.Join(repLines(wide, impl.MaxCells), " | "), impl.MaxRows)},
	} {
		wantList(t, fmt.Sprintf("RenderRows(%q, %q)", c.rows, c.hows), impl.RenderRows(c.rows, c.hows), c.want)
	}
}

func TestRenderRowsOfOtherArguments(t *testing.T) {
	want := func(rows [][]string, hows []string) {
		t.Helper()
		wantList(t, fmt.Sprintf("RenderRows(%q, %q)", rows, hows), impl.RenderRows(rows, hows), nil)
	}
	for _, rows := range notTables() {
		want(rows, repLines("left", sizeOfRow(rows)))
		want(rows, []string{"left", "left"})
		want(rows, nil)
	}
	for _, rows := range [][][]string{nil, {{"a"}}, {{"", ""}}, {{"a", "b"}, {"cc", "d"}}, numbered(impl.MaxRows, impl.MaxCells)} {
		columns := sizeOfRow(rows)
		for n := range impl.MaxCells + 2 {
			if n != columns {
				want(rows, repLines("left", n))
			}
		}
		for _, bad := range notHows {
			for j := range columns {
				// The column may be so narrow that there is nothing to pad.
				want(rows, slices.Replace(repLines("left", columns), j, j+1, bad))
			}
		}
	}
}

// padded returns what PadText must be.
func padded(cell string, width int, how string) string {
	switch missing := width - len(cell); how {
	case "right":
		return rep(" ", missing) + cell
	case "middle":
		return rep(" ", missing/2) + cell + rep(" ", missing-missing/2)
	default:
		return cell + rep(" ", missing)
	}
}

// canBeRead reports whether no cell of a table has a | or a space at its end or beginning.
func canBeRead(rows [][]string) bool {
	return !slices.ContainsFunc(slices.Concat(rows...), func(cell string) bool {
		return strings.Contains(cell, "|") || strings.Trim(cell, " ") != cell
	})
}

func TestPromise28TablesAreReadBack(t *testing.T) {
	for _, rows := range someTables() {
		for first := range allHows {
			var hows []string
			for j := range sizeOfRow(rows) {
				hows = append(hows, allHows[(first+j)%len(allHows)])
			}
			wantRendered(t, rows, hows)
		}
	}
}

// wantRendered reports lines of a table that are not those of its cells, not as long, or not read back.
func wantRendered(t *testing.T, rows [][]string, hows []string) {
	t.Helper()
	what := fmt.Sprintf("RenderRows(%q, %q)", rows, hows)
	lines := impl.RenderRows(rows, hows)
	if len(lines) != len(rows) {
		t.Errorf("%s = %q", what, lines)
		return
	}
	for i, row := range rows {
		var cells []string
		for j, cell := range row {
			cells = append(cells, padded(cell, sizeOf(columnOf(rows, j)), hows[j]))
		}
		wantText(t, fmt.Sprintf("line %d of %s", i, what), lines[i], strings.Join(cells, " | "))
		if len(lines[i]) != len(lines[0]) {
			t.Errorf("%s = %q has lines of two lengths", what, lines)
		}
	}
	if canBeRead(rows) {
		read, ok := impl.ReadRows(lines)
		wantRows(t, "ReadRows of "+what, read, ok, rows)
	}
}

// Promise 29.

func TestReadRows(t *testing.T) {
	most := strings.Join(repLines(wide, impl.MaxCells), " | ")
	for _, c := range []struct {
		lines []string
		want  [][]string
	}{
		{nil, nil},
		{[]string{}, nil},
		{[]string{""}, [][]string{{""}}},
		{[]string{"   "}, [][]string{{""}}},
		{[]string{rep(" ", impl.MaxLine)}, [][]string{{""}}},
		{[]string{"a"}, [][]string{{"a"}}},
		{[]string{"  a b  "}, [][]string{{"a b"}}},
		{[]string{"a   | long |  1", "bcd |      | 22"}, [][]string{{"a", "long", "1"}, {"bcd", "", "22"}}},
		{[]string{" | "}, [][]string{{"", ""}}},
		{[]string{" | | "}, [][]string{{"", "|"}}},
		{[]string{" |  | "}, [][]string{{"", "", ""}}},
		{[]string{"a | | b"}, [][]string{{"a", "| b"}}},
		{[]string{"a | | | b"}, [][]string{{"a", "|", "b"}}},
		{[]string{"a | | |  | b"}, [][]string{{"a", "|", "", "b"}}},
		{[]string{"|"}, [][]string{{"|"}}},
		{[]string{" |"}, [][]string{{"|"}}},
		{[]string{"| "}, [][]string{{"|"}}},
		{[]string{"a|b"}, [][]string{{"a|b"}}},
		{[]string{"a |b"}, [][]string{{"a |b"}}},
		{[]string{"a| b"}, [][]string{{"a| b"}}},
		{[]string{"a || b"}, [][]string{{"a || b"}}},
		{[]string{"a | "}, [][]string{{"a", ""}}},
		{[]string{"a |"}, [][]string{{"a |"}}},
		{[]string{"| a | b |"}, [][]string{{"| a", "b |"}}},
		{[]string{`"a | b"`, `, | """"`}, [][]string{{`"a`, `b"`}, {",", `""""`}}},
		{[]string{" |  |  |  | "}, [][]string{{"", "", "", "", ""}}},
		{[]string{most}, [][]string{repLines(wide, impl.MaxCells)}},
		{repLines(most, impl.MaxRows), slices.Repeat([][]string{repLines(wide, impl.MaxCells)}, impl.MaxRows)},
		{[]string{wide + rep(" ", impl.MaxLine-len(wide)), "a"}, [][]string{{wide}, {"a"}}},
		{[]string{rep(" ", impl.MaxLine-len(most)) + most}, [][]string{repLines(wide, impl.MaxCells)}},
		{repLines("", impl.MaxRows), slices.Repeat([][]string{{""}}, impl.MaxRows)},
	} {
		got, ok := impl.ReadRows(c.lines)
		wantRows(t, fmt.Sprintf("ReadRows(%q)", c.lines), got, ok, c.want)
	}
}

func TestReadRowsOfOtherLines(t *testing.T) {
	lists := [][]string{
		repLines("a", impl.MaxRows+1),
		repLines("", impl.MaxRows+1),
		repLines("a | b", 1000),
		{"a | b", "c"},
		{"c", "a | b"},
		{"a | b", ""},
		{"a | b", "c | d", "e | f | g"},
		{" |  |  |  |  | "},
		{wide + "c"},
		{"a | " + wide + "c"},
		{"a", wide + "c"},
		{wide[1:] + " |"},
		{rep(" ", impl.MaxLine+1)},
		{"a", "b" + rep(" ", impl.MaxLine)},
		{"a | " + rep(" ", impl.MaxLine-3)},
		{rep("a", 100000)},
		{strings.Join(repLines("a", 46), " | ")},
	}
	for b := range 256 {
		if b < 32 || b > 126 {
			bad := string([]byte{byte(b)})
			lists = append(lists, []string{bad}, []string{"a | " + bad}, []string{"a", bad + "b"}, []string{"a " + bad + " b"})
		}
	}
	for _, lines := range append(lists, []string{"\u00e9"}, []string{"a | \u20ac"}, []string{"a\u00a0"}) {
		got, ok := impl.ReadRows(lines)
		wantNoRows(t, fmt.Sprintf("ReadRows(%q)", lines), got, ok)
	}
}

// cutLine returns the cells of a line: it is searched byte by byte, and what has been part of a cut is of no other one.
func cutLine(line string) []string {
	var cells []string
	start := 0
	for i := 0; i+3 <= len(line); {
		if line[i] == ' ' && line[i+1] == '|' && line[i+2] == ' ' {
			cells = append(cells, line[start:i])
			i += 3
			start = i
		} else {
			i++
		}
	}
	cells = append(cells, line[start:])
	for j, cell := range cells {
		for cell != "" && cell[0] == ' ' {
			cell = cell[1:]
		}
		for cell != "" && cell[len(cell)-1] == ' ' {
			cell = cell[:len(cell)-1]
		}
		cells[j] = cell
	}
	return cells
}

func TestPromise29CellsHaveNoSpacesAtTheirEnds(t *testing.T) {
	lists := listsOver([]string{"", "a", " a | b ", "c |d | ", " | ", "e | f | g"}, 3)
	for _, line := range append(textsOver(" |a", 8), textsOver(" |", 13)...) {
		lists = append(lists, []string{line}, []string{line, "b | c"})
	}
	for _, lines := range lists {
		wantRead(t, lines)
	}
}

// wantRead reports a table that is not that of the lines, has spaces at the ends of its cells, or is another one when it is written and read again.
func wantRead(t *testing.T, lines []string) {
	t.Helper()
	what := fmt.Sprintf("ReadRows(%q)", lines)
	var want [][]string
	for _, line := range lines {
		want = append(want, cutLine(line))
	}
	got, ok := impl.ReadRows(lines)
	if !impl.ValidRows(want) {
		wantNoRows(t, what, got, ok)
		return
	}
	wantRows(t, what, got, ok, want)
	for _, cell := range slices.Concat(got...) {
		if strings.HasPrefix(cell, " ") || strings.HasSuffix(cell, " ") {
			t.Errorf("%s has %q", what, cell)
		}
	}
	if !canBeRead(got) {
		return
	}
	for _, how := range allHows {
		again, fine := impl.ReadRows(impl.RenderRows(got, repLines(how, sizeOfRow(got))))
		wantRows(t, what+" written and read", again, fine, got)
	}
}

// Promise 30.

func TestQuoteCells(t *testing.T) {
	for _, c := range []struct {
		cells []string
		want  string
	}{
		{[]string{"a"}, `a`},
		{[]string{""}, `""`},
		{[]string{" "}, `" "`},
		{[]string{"   "}, `"   "`},
		{[]string{","}, `","`},
		{[]string{`"`}, `""""`},
		{[]string{`""`}, `""""""`},
		{[]string{"a", "b"}, `a,b`},
		{[]string{"", "a b"}, `"","a b"`},
		{[]string{`x"y`, ","}, `"x""y",","`},
		{[]string{"a ", " a"}, `"a "," a"`},
		{[]string{`",`, `,"`}, `""",",","""`},
		{[]string{"'", "|", "~", "!"}, `',|,~,!`},
		{[]string{"", "", "", "", ""}, `"","","","",""`},
		{[]string{"1", "2", "3", "4", "5"}, `1,2,3,4,5`},
		{[]string{wide}, wide},
		{repLines(wide, impl.MaxCells), strings.Join(repLines(wide, impl.MaxCells), ",")},
		{[]string{rep(" ", impl.MaxCell)}, `"` + rep(" ", impl.MaxCell) + `"`},
		{repLines(rep(`"`, impl.MaxCell), impl.MaxCells), strings.Join(repLines(rep(`"`, 34), impl.MaxCells), ",")},
	} {
		wantText(t, fmt.Sprintf("QuoteCells(%q)", c.cells), impl.QuoteCells(c.cells), c.want)
	}
	for _, cells := range notCells() {
		wantText(t, fmt.Sprintf("QuoteCells(%q)", cells), impl.QuoteCells(cells), "")
	}
}

// quoted returns what QuoteCells must be.
func quoted(cells []string) string {
	var out []byte
	for j, cell := range cells {
		if j > 0 {
			out = append(out, ',')
		}
		inQuotes := cell == ""
		var inside []byte
		for _, b := range []byte(cell) {
			inQuotes = inQuotes || b == ',' || b == '"' || b == ' '
			if b == '"' {
				inside = append(inside, b)
			}
			inside = append(inside, b)
		}
		if inQuotes {
			inside = append(append([]byte{'"'}, inside...), '"')
		}
		out = append(out, inside...)
	}
	return string(out)
}

func TestPromise30CellsWithCommasAreToldBack(t *testing.T) {
	for _, cells := range someCells() {
		text := impl.QuoteCells(cells)
		wantText(t, fmt.Sprintf("QuoteCells(%q)", cells), text, quoted(cells))
		back, ok := impl.ReadCells(text)
		wantTrue(t, fmt.Sprintf("ReadCells(%q)", text), back, ok, cells)
	}
}

// Promise 31.

func TestReadCells(t *testing.T) {
	for _, c := range []struct {
		s    string
		want []string
	}{
		{`a`, []string{"a"}},
		{`""`, []string{""}},
		{`" "`, []string{" "}},
		{`""""`, []string{`"`}},
		{`","`, []string{","}},
		{`a,"b ""c",""`, []string{"a", `b "c`, ""}},
		{`""",""",","`, []string{`","`, ","}},
		{`""",",""""`, []string{`",`, `"`}},
		{`"","","","",""`, []string{"", "", "", "", ""}},
		{`"a b""c d"`, []string{`a b"c d`}},
		{`'a',|`, []string{"'a'", "|"}},
		{wide + "," + wide, []string{wide, wide}},
		{strings.Join(repLines(rep(`"`, 34), impl.MaxCells), ","), repLines(rep(`"`, impl.MaxCell), impl.MaxCells)},
	} {
		got, ok := impl.ReadCells(c.s)
		wantTrue(t, fmt.Sprintf("ReadCells(%q)", c.s), got, ok, c.want)
	}
}

func TestReadCellsOfOtherTexts(t *testing.T) {
	for _, s := range append(notTexts(),
		``, `,`, `a,`, `,a`, `a,,b`, `"`, `"""`, `"""""`, `"a"`, `"a`, `a"`, `a"b`, `"a"b"`, `"a b`, `a b`, `a b"`, ` `, ` a`, `a `, `a, b`, `a ,b`, ` "a b"`, `"a b" `, `"a b"c`, `c"a b"`, `"a b""`, `""a b"`, `"a b",`, `,"a b"`, `"a b"",c d`, `"","`, `"",""",`, `'a b'`,
		`1,2,3,4,5,6`, `"","","","","",""`,
		wide+"c", "a,"+wide+"c", `"`+rep(" ", impl.MaxCell+1)+`"`, `"`+rep(`""`, impl.MaxCell+1)+`"`,
		"a,\"\t\"", "a\tb", "\"a\n\"", "\u00e9,a", "\"\u00e9\"", "\xff,\xfe",
		rep(",", 100000), rep(`"`, 100001), rep(`"",`, 50000)+`""`, rep("a,", 50000)+"a",
	) {
		got, ok := impl.ReadCells(s)
		wantFalse(t, fmt.Sprintf("ReadCells(%q)", s), got, ok)
	}
}

// cellsWithin returns all lists of cells of a, spaces, quotes and commas whose text has at most so many bytes, by their texts.
func cellsWithin(size int) map[string][]string {
	all := map[string][]string{}
	var add func(cells []string)
	texts := textsOver(`a ",`, size)
	add = func(cells []string) {
		for _, cell := range texts {
			list := append(slices.Clone(cells), cell)
			text := quoted(list)
			if len(text) > size {
				continue
			}
			all[text] = list
			if len(list) < impl.MaxCells && len(text)+2 <= size {
				add(list)
			}
		}
	}
	add(nil)
	return all
}

func TestPromise31TextsOfCellsAreWrittenBack(t *testing.T) {
	const size = 7
	all := cellsWithin(size)
	for _, s := range textsOver(`a ",`, size) {
		what := fmt.Sprintf("ReadCells(%q)", s)
		want, is := all[s]
		got, ok := impl.ReadCells(s)
		if !is {
			wantFalse(t, what, got, ok)
			continue
		}
		wantTrue(t, what, got, ok, want)
		wantText(t, "QuoteCells of "+what, impl.QuoteCells(got), s)
	}
	if len(all) < 100 {
		t.Errorf("only %d texts are those of cells", len(all))
	}
}

func TestPromise31TextsWithAnotherByteAreThoseOfOtherCells(t *testing.T) {
	for _, cells := range [][]string{{"ab", "", `c"d`, "e f", ","}, {`"`, `""`, ",", " ", "x"}, {wide, `"` + wide[1:]}} {
		text := quoted(cells)
		for i := range len(text) {
			for _, b := range `a ",` {
				for _, s := range []string{text[:i] + string(b) + text[i+1:], text[:i] + string(b) + text[i:], text[:i] + text[i+1:]} {
					got, ok := impl.ReadCells(s)
					if ok {
						wantText(t, fmt.Sprintf("QuoteCells(%q)", got), quoted(got), s)
					} else if len(got) != 0 {
						t.Errorf("ReadCells(%q) = %q, false", s, got)
					}
				}
			}
		}
	}
}

// Promise 32.

func TestTurnRows(t *testing.T) {
	for _, c := range []struct{ rows, want [][]string }{
		{[][]string{{""}}, [][]string{{""}}},
		{[][]string{{"a"}}, [][]string{{"a"}}},
		{[][]string{{"a", "b", "c"}}, [][]string{{"a"}, {"b"}, {"c"}}},
		{[][]string{{"a"}, {"b"}, {"c"}}, [][]string{{"a", "b", "c"}}},
		{[][]string{{"a", "long", "1"}, {"bcd", "", "22"}}, [][]string{{"a", "bcd"}, {"long", ""}, {"1", "22"}}},
		{[][]string{{" ", `"`}, {",", "|"}}, [][]string{{" ", ","}, {`"`, "|"}}},
		{[][]string{{"1"}, {"2"}, {"3"}, {"4"}, {"5"}}, [][]string{{"1", "2", "3", "4", "5"}}},
		{[][]string{{"1", "2", "3", "4", "5"}}, [][]string{{"1"}, {"2"}, {"3"}, {"4"}, {"5"}}},
	} {
		wantParts(t, fmt.Sprintf("TurnRows(%q)", c.rows), impl.TurnRows(c.rows), c.want)
	}
	lists := append(notTables(), nil, [][]string{}, numbered(impl.MaxRows, 1), numbered(impl.MaxRows, impl.MaxCells), slices.Repeat([][]string{{""}}, impl.MaxRows))
	for _, rows := range lists {
		wantParts(t, fmt.Sprintf("TurnRows(%q)", rows), impl.TurnRows(rows), nil)
	}
}

func TestPromise32TablesAreTurnedBack(t *testing.T) {
	for _, rows := range someTables() {
		if len(rows) < 1 || len(rows) > impl.MaxCells {
			continue
		}
		what := fmt.Sprintf("TurnRows(%q)", rows)
		turned := impl.TurnRows(rows)
		var want [][]string
		for j := range sizeOfRow(rows) {
			want = append(want, columnOf(rows, j))
		}
		wantParts(t, what, turned, want)
		wantParts(t, "TurnRows of "+what, impl.TurnRows(turned), rows)
	}
}

// Promise 33.

func TestWrapCells(t *testing.T) {
	for _, c := range []struct {
		cells  []string
		widths []int
		want   [][]string
	}{
		{[]string{""}, []int{1}, nil},
		{[]string{" "}, []int{1}, nil},
		{[]string{"", "  ", rep(" ", impl.MaxCell)}, []int{1, 2, impl.MaxCell}, nil},
		{[]string{"a"}, []int{1}, [][]string{{"a"}}},
		{[]string{"a"}, []int{impl.MaxCell}, [][]string{{"a"}}},
		{[]string{" a  b "}, []int{3}, [][]string{{"a b"}}},
		{[]string{" a  b "}, []int{2}, [][]string{{"a"}, {"b"}}},
		{[]string{"two words", "a b c"}, []int{5, 3}, [][]string{{"two", "a b"}, {"words", "c"}}},
		{[]string{"a b c", ""}, []int{1, 4}, [][]string{{"a", ""}, {"b", ""}, {"c", ""}}},
		{[]string{"", "a b", "c"}, []int{4, 1, 1}, [][]string{{"", "a", "c"}, {"", "b", ""}}},
		{[]string{`"a b"`, "c,d |"}, []int{2, 3}, [][]string{{`"a`, "c,d"}, {`b"`, "|"}}},
		{[]string{longest}, []int{impl.MaxWord}, [][]string{{longest}}},
		// Even lines would be others.
		{[]string{"a b c d dddddd"}, []int{6}, [][]string{{"a b c"}, {"d"}, {"dddddd"}}},
		{[]string{longest + " a b", "a"}, []int{impl.MaxCell, 1}, [][]string{{longest + " a b", "a"}}},
		{[]string{longest + " abc"}, []int{impl.MaxCell - 1}, [][]string{{longest}, {"abc"}}},
		{[]string{"a b c d e f g h"}, []int{impl.MaxCell}, [][]string{{"a b c d e f g h"}}},
		{[]string{"a b c d e f g h"}, []int{3}, [][]string{{"a b"}, {"c d"}, {"e f"}, {"g h"}}},
		{[]string{"a b c d e f"}, []int{1}, [][]string{{"a"}, {"b"}, {"c"}, {"d"}, {"e"}, {"f"}}},
		{[]string{"a b c d e ff", "", "g", " h", "i j"}, []int{2, 1, 1, 1, 3}, [][]string{{"a", "", "g", "h", "i j"}, {"b", "", "", "", ""}, {"c", "", "", "", ""}, {"d", "", "", "", ""}, {"e", "", "", "", ""}, {"ff", "", "", "", ""}}},
	} {
		got, ok := impl.WrapCells(c.cells, c.widths)
		wantRows(t, fmt.Sprintf("WrapCells(%q, %v)", c.cells, c.widths), got, ok, c.want)
	}
}

// wantNotWrapped reports wrapped cells that are there, but must not be.
func wantNotWrapped(t *testing.T, cells []string, widths []int) {
	t.Helper()
	got, ok := impl.WrapCells(cells, widths)
	wantNoRows(t, fmt.Sprintf("WrapCells(%q, %v)", cells, widths), got, ok)
}

func TestWrapCellsThatDoNotFit(t *testing.T) {
	wantNotWrapped(t, []string{"words"}, []int{4})
	wantNotWrapped(t, []string{"a", "words"}, []int{4, 4})
	wantNotWrapped(t, []string{"words", "a"}, []int{4, 4})
	wantNotWrapped(t, []string{"a words"}, []int{4})
	wantNotWrapped(t, []string{longest}, []int{impl.MaxWord - 1})
	// Words of cells can be longer than words may be.
	wantNotWrapped(t, []string{longest + "w"}, []int{impl.MaxCell})
	wantNotWrapped(t, []string{wide}, []int{impl.MaxCell})
	wantNotWrapped(t, []string{"a", "b " + longest + "w"}, []int{1, impl.MaxCell})
	// The lines of cells can be more than rows may be.
	wantNotWrapped(t, []string{"a b c d e f g"}, []int{1})
	wantNotWrapped(t, []string{"a b c d e f g"}, []int{2})
	wantNotWrapped(t, []string{"a b c d e f g h"}, []int{1})
	wantNotWrapped(t, []string{"", "a b c d e f g h", "a"}, []int{1, 2, 1})
}

func TestWrapCellsOfOtherArguments(t *testing.T) {
	for _, cells := range notCells() {
		for _, width := range []int{1, impl.MaxWord, impl.MaxCell} {
			wantNotWrapped(t, cells, slices.Repeat([]int{width}, len(cells)))
		}
	}
	for _, cells := range [][]string{{""}, {"a"}, {" ", ""}, {"a", "b c"}, repLines("a", impl.MaxCells)} {
		for n := range impl.MaxCells + 2 {
			if n != len(cells) {
				wantNotWrapped(t, cells, slices.Repeat([]int{3}, n))
			}
		}
		for _, bad := range []int{math.MinInt, -1, 0, impl.MaxCell + 1, impl.MaxText, math.MaxInt} {
			for j := range cells {
				wantNotWrapped(t, cells, slices.Replace(slices.Repeat([]int{3}, len(cells)), j, j+1, bad))
			}
		}
	}
	wantNotWrapped(t, nil, nil)
	wantNotWrapped(t, nil, []int{1})
	wantNotWrapped(t, []string{"a"}, nil)
}

// wrappedLines returns the greedy lines of a cell, and true; false if a word is longer than the width or than words may be.
func wrappedLines(cell string, width int) ([]string, bool) {
	words := strings.Fields(cell)
	if sizeOf(words) > impl.MaxWord {
		return nil, false
	}
	return filled(words, width, 0, 0)
}

func TestPromise33WrappedCellsHaveTheirWords(t *testing.T) {
	lists := append(someCells(), listsOver([]string{"", "a b c d", "aa bbb", " cccc  d", longest, "a b c d e f", "a b c d e f g", longest + "w"}, 3)...)
	for _, cells := range lists {
		if len(cells) == 0 {
			continue
		}
		for _, width := range []int{1, 2, 3, 4, 7, 11, 12, 13, 15, impl.MaxCell} {
			var widths []int
			for j := range cells {
				widths = append(widths, 1+(width-1+3*j)%impl.MaxCell)
			}
			wantWrapped(t, cells, slices.Repeat([]int{width}, len(cells)))
			wantWrapped(t, cells, widths)
		}
	}
}

// wantWrapped reports rows that are not those of the lines of all cells, or have other words or wider cells.
func wantWrapped(t *testing.T, cells []string, widths []int) {
	t.Helper()
	what := fmt.Sprintf("WrapCells(%q, %v)", cells, widths)
	var columns [][]string
	rows := 0
	for j, cell := range cells {
		lines, fits := wrappedLines(cell, widths[j])
		if !fits || len(lines) > impl.MaxRows {
			wantNotWrapped(t, cells, widths)
			return
		}
		columns = append(columns, lines)
		rows = max(rows, len(lines))
	}
	got, ok := impl.WrapCells(cells, widths)
	if !ok || len(got) != rows || !impl.ValidRows(got) {
		t.Errorf("%s = %q, %v", what, got, ok)
		return
	}
	for j := range cells {
		var words []string
		for i, row := range got {
			wantText(t, fmt.Sprintf("cell %d of row %d of %s", j, i, what), row[j], at(columns[j], i))
			if len(row[j]) > widths[j] {
				t.Errorf("%s has %q", what, row[j])
			}
			words = append(words, strings.Fields(row[j])...)
		}
		wantList(t, "words of "+what, words, strings.Fields(cells[j]))
	}
}

// The general conventions.

func TestTablesAreNotChanged(t *testing.T) {
	room := [][]string{{"a b", "c ", "behind"}, {"d", `"e"`, "behind"}, {"behind"}}
	whole := [][]string{room[0][:2], room[1][:2], room[2]}
	rows := whole[:2]
	lines := []string{"a | b", "c | d", "behind"}
	hows, widths := []string{"left", "right", "behind"}, []int{1, 2, 99}
	for _, call := range []func() [][]string{
		func() [][]string { return [][]string{impl.RenderRows(rows, hows[:2])} },
		func() [][]string { r, _ := impl.ReadRows(lines[:2]); return r },
		func() [][]string { return [][]string{{impl.QuoteCells(rows[0])}} },
		func() [][]string { l, _ := impl.ReadCells(`a,"b c"`); return [][]string{l} },
		func() [][]string { return impl.TurnRows(rows) },
		func() [][]string { return impl.TurnRows(rows[:1]) },
		func() [][]string { r, _ := impl.WrapCells(rows[0], widths[:2]); return r },
		func() [][]string { return [][]string{{fmt.Sprint(impl.ValidRows(rows), impl.ColumnWidths(rows))}} },
	} {
		first := call()
		var kept [][]string
		for _, cells := range first {
			kept = append(kept, slices.Clone(cells))
		}
		if len(slices.Concat(kept...)) == 0 {
			t.Fatal("the call has no cells")
		}
		for _, cells := range first {
			cells[0] = "changed"
			_ = append(cells, "changed")
		}
		_ = append(first, []string{"changed"})
		wantParts(t, "the rows", room, [][]string{{"a b", "c ", "behind"}, {"d", `"e"`, "behind"}, {"behind"}})
		wantParts(t, "the table", whole, [][]string{{"a b", "c "}, {"d", `"e"`}, {"behind"}})
		wantList(t, "the lines", lines, []string{"a | b", "c | d", "behind"})
		wantList(t, "the ways to pad", hows, []string{"left", "right", "behind"})
		wantParts(t, "the second result", call(), kept)
	}
}

func TestRowsAreNotShared(t *testing.T) {
	read, _ := impl.ReadRows([]string{"a | b", "c | d", "e | f"})
	turned := impl.TurnRows([][]string{{"a", "b", "c"}, {"d", "e", "f"}})
	wrapped, _ := impl.WrapCells([]string{"a b c", "d e"}, []int{1, 1})
	for _, rows := range [][][]string{read, turned, wrapped} {
		if len(rows) != 3 {
			t.Fatalf("rows = %q", rows)
		}
		for i := range rows {
			for j := range rows[i] {
				rows[i][j] = fmt.Sprint(i, j)
			}
			_ = append(rows[i], "changed", "changed", "changed")
			_ = append(rows[i][:1], "2 2")
		}
		wantParts(t, "the rows", rows, [][]string{{"0 0", "2 2"}, {"1 0", "2 2"}, {"2 0", "2 2"}})
	}
}

func TestWidthsAreNotShared(t *testing.T) {
	rows := [][]string{{"a", "bb"}, {"ccc", ""}}
	first := impl.ColumnWidths(rows)
	first[0] = 99
	if again := impl.ColumnWidths(rows); !slices.Equal(again, []int{3, 2}) {
		t.Errorf("ColumnWidths = %v", again)
	}
}
