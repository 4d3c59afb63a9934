package tests

import (
	"fmt"
	"maps"
	"regexp"
	"slices"
	"strings"
	"testing"

	"loop.example/textsinlines/impl"
)

// formPattern is that of all texts that are read from the left on as a form has to be, whatever their length and their number of holes.
var formPattern = regexp.MustCompile(`^(?:[ -z|~]|\{\{|\}\}|\{[a-z]{1,8}\})*$`)

// piecePattern is that of what a form is read by: brackets that stand twice, holes, and other bytes.
var piecePattern = regexp.MustCompile(`\{\{|\}\}|\{([a-z]{1,8})\}|[ -z|~]`)

// longName is a name as long as one can be.
var longName = rep("n", impl.MaxName)

// notNames are no names of holes.
var notNames = []string{"", " ", "A", "Z", "aB", "a b", " a", "a ", "1", "a1", "_", "`", "{", "}", "{a}", "{a", "a}", "a-b", "a\t", "\x00", "\xe9", "\u00e9", longName + "n", rep("a", 1000)}

// holesIn returns the names of all holes of a form, as often as they come.
func holesIn(form string) []string {
	var names []string
	for _, piece := range piecePattern.FindAllStringSubmatch(form, -1) {
		if piece[1] != "" {
			names = append(names, piece[1])
		}
	}
	return names
}

// namesIn returns the names of the holes of a form, each where it comes first.
func namesIn(form string) []string {
	var names []string
	for _, name := range holesIn(form) {
		if !slices.Contains(names, name) {
			names = append(names, name)
		}
	}
	return names
}

// isForm returns what ValidForm must be.
func isForm(s string) bool {
	return len(s) <= impl.MaxText && formPattern.MatchString(s) && len(holesIn(s)) <= impl.MaxHoles
}

// fillsOf returns a fill for each two texts: a name, and its value.
func fillsOf(texts ...string) []impl.Fill {
	var fills []impl.Fill
	for pair := range slices.Chunk(texts, 2) {
		fills = append(fills, impl.Fill{Name: pair[0], Value: pair[1]})
	}
	return fills
}

// valueOf returns the value of the fill with the name, and whether there is one.
func valueOf(fills []impl.Fill, name string) (string, bool) {
	for _, f := range fills {
		if f.Name == name {
			return f.Value, true
		}
	}
	return "", false
}

// twice returns a text with each bracket twice.
func twice(s string) string {
	var out []byte
	for _, b := range []byte(s) {
		if b == '{' || b == '}' {
			out = append(out, b)
		}
		out = append(out, b)
	}
	return string(out)
}

// formFilled returns what FillForm must be.
func formFilled(form string, fills []impl.Fill) (string, bool) {
	var out string
	for _, piece := range piecePattern.FindAllString(form, -1) {
		switch value, ok := valueOf(fills, strings.Trim(piece, "{}")); {
		case len(piece) == 1:
			out += piece
		case piece == "{{" || piece == "}}":
			out += piece[1:]
		case !ok:
			return "", false
		default:
			out += value
		}
	}
	if len(out) > impl.MaxText {
		return "", false
	}
	return out, true
}

// someFilled returns what FillSome must be.
func someFilled(form string, fills []impl.Fill) (string, bool) {
	var out string
	for _, piece := range piecePattern.FindAllString(form, -1) {
		if value, ok := valueOf(fills, strings.Trim(piece, "{}")); ok && len(piece) > 2 {
			piece = twice(value)
		}
		out += piece
	}
	if len(out) > impl.MaxText {
		return "", false
	}
	return out, true
}

// edgeForms returns forms at the limits: of bytes, of holes, and of bytes of names.
func edgeForms() []string {
	return []string{
		full, rep(" ", impl.MaxText), rep("{{", impl.MaxText/2), rep("}}", impl.MaxText/2), rep("{{}}", impl.MaxText/4),
		rep("{a}", impl.MaxHoles), "{a}{b}{c}{d}{e}", "{e}{d}{c}{d}{e}", "{" + longName + "}", rep("{"+longName+"}", impl.MaxHoles),
		"{a}" + full[3:], full[3:] + "{a}", "{a}{b}" + full[6:], " " + rep("{{", 57) + "{a}}}", "{{" + full[5:] + "{a}",
		twice(allPlain()), "{{{a}}}", "{{{{a}}}}", "{{a}}{a}", "{a}}}{{{a}", "}}{a}{{", "{ab}{a}{b}", "{a}{aa}{aaa}",
	}
}

// someForms returns forms of many shapes, with their limits.
func someForms() []string {
	var forms []string
	for _, s := range slices.Concat(textsOver("{}a", 7), textsOver("{}a b", 5)) {
		if isForm(s) {
			forms = append(forms, s)
		}
	}
	for _, parts := range listsOver([]string{"{a}", "{b}", "{abc}", "a", "{{", "}}"}, 4) {
		forms = append(forms, strings.Join(parts, ""))
	}
	return append(forms, edgeForms()...)
}

// notForms returns texts that are no forms: none at all, too many holes, and brackets that stand alone.
func notForms() []string {
	list := notTexts()
	for _, name := range notNames {
		list = append(list, "{"+name+"}")
	}
	// Brackets around a name with brackets stand twice, so that is a form.
	list = slices.DeleteFunc(list, func(s string) bool { return s == "{{a}}" })
	return append(list,
		"{", "}", "{}", "}{", "{{{", "}}}", "{{}", "{}}", "{{{}}}", "{a", "a}", "{{a}", "{a}}", "{a{", "{a{a}", "{a{{", "{{a}}}", "{{{a}}", "{a}{", "{a}}{", "}{a}", "{a}}a}", "a{a b}c", "{a} {b", "{{{{{", "{a }", "{ a}",
		rep("{a}", impl.MaxHoles+1), "{a}{b}{c}{d}{e}{f}", rep("{a}", 40), rep("{", 119), rep("{", impl.MaxText-1)+"}",
		rep("{{", 61), rep("{", 122), twice(full+"{"), full[2:]+"{a}", "{a}"+full+"{b}", full[1:]+"{", full[1:]+"}", rep("{a}", 100000), rep("{", 100001))
}

// someFills returns fills of many shapes, with their limits: names of holes and others, and values with brackets.
func someFills() [][]impl.Fill {
	lists := [][]impl.Fill{nil, {}}
	for _, value := range []string{"", "x", " ", "{", "}", "{{", "{a}", "{b}", "}}{{", "a}", "{a", full, rep("{", impl.MaxText), rep("}", 60), full[60:], full[80:]} {
		lists = append(lists,
			fillsOf("a", value),
			fillsOf("b", value),
			fillsOf("b", "y", "a", value),
			fillsOf("a", "{b}", "b", value, "abc", "{{a}}"),
			fillsOf("a", value, "b", value, "c", value, "d", value, "e", value),
			fillsOf(longName, value, "z", "z"),
			fillsOf("ab", value, "aa", "1", "aaa", value, "a", "2", "abc", "3"))
	}
	return lists
}

// notFills returns lists that are no fills: too many, with a name twice, or with one that has no name or no value.
func notFills() [][]impl.Fill {
	lists := [][]impl.Fill{
		fillsOf("a", "", "b", "", "c", "", "d", "", "e", "", "f", ""),
		slices.Repeat(fillsOf("a", "x"), 1000),
		fillsOf("a", "x", "a", "x"),
		fillsOf("a", "", "a", ""),
		fillsOf("a", "x", "a", "y"),
		fillsOf("a", "", "a", "y"),
		fillsOf("a", "x", "b", "y", "c", "z", "d", "x", "a", "y"),
		fillsOf("b", "y", "a", "x", "c", "z", "b", "y"),
		fillsOf("zz", "x", "zz", "x"),
	}
	for _, name := range notNames {
		lists = append(lists, fillsOf(name, ""), fillsOf(name, "x"), fillsOf("a", "x", name, "y"), fillsOf(name, "y", "a", "x", "b", "y"))
	}
	for _, value := range notTexts() {
		lists = append(lists, fillsOf("a", value), fillsOf("zz", value), fillsOf("a", "x", "b", value), fillsOf("zz", value, "a", "x"))
	}
	return lists
}

// wantFilled reports a filled form that is not the one wanted, or that comes with false.
func wantFilled(t *testing.T, what string, got string, ok bool, want string) {
	t.Helper()
	if !ok || got != want {
		t.Errorf("%s = %q, %v, want %q", what, got, ok, want)
	}
}

// wantNotFilled reports a filled form that comes with true, or with false but is not "".
func wantNotFilled(t *testing.T, what string, got string, ok bool) {
	t.Helper()
	if ok || got != "" {
		t.Errorf("%s = %q, %v", what, got, ok)
	}
}

// wantSame reports a filled form, or none, that is not the one wanted, or none.
func wantSame(t *testing.T, what string, got string, ok bool, want string, there bool) {
	t.Helper()
	if there {
		wantFilled(t, what, got, ok, want)
	} else {
		wantNotFilled(t, what, got, ok)
	}
}

// forForms tries each form with each of the fills.
func forForms(try func(form string, fills []impl.Fill)) {
	lists := someFills()
	for _, form := range someForms() {
		for _, fills := range lists {
			try(form, fills)
		}
	}
}

func TestLimitsOfHoles(t *testing.T) {
	if impl.MaxName != 8 || impl.MaxHoles != 5 || impl.MaxMatch != 3 {
		t.Errorf("limits = %d, %d, %d", impl.MaxName, impl.MaxHoles, impl.MaxMatch)
	}
}

// Promise 34.

func TestValidForm(t *testing.T) {
	for _, s := range append(edgeForms(), "", "a", " ", "{{", "}}", "{{}}", "}}{{", "{a}", "{{a}}", "{{{{", "{a}{a}", "a {b} c", "{z}", "{az}", "{abcdefgh}", "{{{a}}}", "{{{{{a}", "{a}}}}}", "}}{a}", "{{A}}", "{{}}{a}", "{a}{{}}", "{{ }}", "~|z", "{{{{a b}}}}") {
		if !impl.ValidForm(s) {
			t.Errorf("ValidForm(%q) = false", s)
		}
	}
	for _, s := range notForms() {
		if impl.ValidForm(s) {
			t.Errorf("ValidForm(%q) = true", s)
		}
	}
}

func TestValidFormOfAllShortTexts(t *testing.T) {
	for _, s := range slices.Concat(textsOver("{}a", 9), textsOver("{}z A`", 6)) {
		if got, want := impl.ValidForm(s), isForm(s); got != want {
			t.Errorf("ValidForm(%q) = %v", s, got)
		}
	}
	for c := range 256 {
		b := string([]byte{byte(c)})
		for _, s := range []string{b, b + b, "{" + b + "}", "{a" + b + "}", "{a}" + b, b + "{a}", "{{" + b + "}}"} {
			if got, want := impl.ValidForm(s), isForm(s); got != want {
				t.Errorf("ValidForm(%q) = %v", s, got)
			}
		}
	}
}

func TestValidFormAtTheLimits(t *testing.T) {
	for n := range impl.MaxName + 4 {
		if got, want := impl.ValidForm("{"+rep("z", n)+"}"), n >= 1 && n <= impl.MaxName; got != want {
			t.Errorf("ValidForm of a name of %d bytes = %v", n, got)
		}
	}
	for n := range 2 * impl.MaxHoles {
		for _, parts := range [][]string{{"{a}"}, {"{a}", "{b}"}, {"{a} ", "{{", "{bc}"}} {
			s := strings.Join(slices.Repeat(parts, n), "")
			if got, want := impl.ValidForm(s), n*strings.Count(strings.Join(parts, ""), "}") <= impl.MaxHoles; got != want {
				t.Errorf("ValidForm(%q) = %v", s, got)
			}
		}
	}
	for n := impl.MaxText - 8; n < impl.MaxText+3; n++ {
		for _, s := range []string{rep("a", n), rep("a", n-2) + "{{", "}}" + rep("a", n-2), rep("a", n-10) + "{" + longName + "}"} {
			if got, want := impl.ValidForm(s), n <= impl.MaxText; got != want {
				t.Errorf("ValidForm(%q) = %v", s, got)
			}
		}
	}
}

func TestPromise34FormsAreFilledByThemselves(t *testing.T) {
	for _, form := range someForms() {
		for _, fills := range [][]impl.Fill{nil, {}, fillsOf("zz", "x"), fillsOf("zz", full, "x", "{")} {
			got, ok := impl.FillSome(form, fills)
			wantFilled(t, fmt.Sprintf("FillSome(%q, %q)", form, fills), got, ok, form)
		}
	}
}

// Promise 35.

func TestHolesOf(t *testing.T) {
	for _, c := range []struct {
		form string
		want []string
	}{
		{"", nil},
		{"a b", nil},
		{"{{a}}", nil},
		{"{{{{a}}}}", nil},
		{"{a}", []string{"a"}},
		{"{{{a}}}", []string{"a"}},
		{"{{a}}{b}", []string{"b"}},
		{"{b} {a} {b}", []string{"b", "a"}},
		{"{a}{a}{a}{a}{a}", []string{"a"}},
		{"{e}{d}{c}{b}{a}", []string{"e", "d", "c", "b", "a"}},
		{"{a}{b}{a}{c}{b}", []string{"a", "b", "c"}},
		{"{ab}{a}{b}{ba}{ab}", []string{"ab", "a", "b", "ba"}},
		{"x{abcdefgh}y", []string{"abcdefgh"}},
		{"{" + longName + "}{" + longName[1:] + "}", []string{longName, longName[1:]}},
		{full[3:] + "{z}", []string{"z"}},
	} {
		wantList(t, fmt.Sprintf("HolesOf(%q)", c.form), impl.HolesOf(c.form), c.want)
	}
	for _, s := range notForms() {
		wantList(t, fmt.Sprintf("HolesOf(%q)", s), impl.HolesOf(s), nil)
	}
}

func TestPromise35HolesAreToldOnce(t *testing.T) {
	for _, form := range someForms() {
		what := fmt.Sprintf("HolesOf(%q)", form)
		names := impl.HolesOf(form)
		wantList(t, what, names, namesIn(form))
		sorted := slices.Sorted(slices.Values(names))
		if len(slices.Compact(sorted)) != len(names) {
			t.Errorf("%s = %q has a name twice", what, names)
		}
		for _, value := range []string{"", "x", "{", "{a}"} {
			var fills []impl.Fill
			for _, name := range names {
				fills = append(fills, impl.Fill{Name: name, Value: value})
			}
			want, fits := formFilled(form, fills)
			got, ok := impl.FillForm(form, fills)
			wantSame(t, fmt.Sprintf("FillForm(%q, %q)", form, fills), got, ok, want, fits)
			for i := range fills {
				fewer := slices.Delete(slices.Clone(fills), i, i+1)
				none, left := impl.FillForm(form, fewer)
				wantNotFilled(t, fmt.Sprintf("FillForm(%q, %q)", form, fewer), none, left)
			}
		}
	}
}

// Promise 36.

func TestEscapeForm(t *testing.T) {
	for _, c := range []struct{ s, want string }{
		{"", ""},
		{" ", " "},
		{"a b", "a b"},
		{"{", "{{"},
		{"}", "}}"},
		{"{}", "{{}}"},
		{"}{", "}}{{"},
		{"{{", "{{{{"},
		{"{a}", "{{a}}"},
		{"{{a}}", "{{{{a}}}}"},
		{"a{b}", "a{{b}}"},
		{full, full},
		{full[2:] + "{", full[2:] + "{{"},
		{"}" + full[2:], "}}" + full[2:]},
		{rep("{", 60), rep("{{", 60)},
		{rep("}", 60), rep("}}", 60)},
		{rep("{}", 30), rep("{{}}", 30)},
		// These would be too long.
		{full[1:] + "{", ""},
		{full[1:] + "}", ""},
		{rep("{", 61), ""},
		{rep("}", 61), ""},
		{rep("{", impl.MaxText), ""},
	} {
		wantText(t, fmt.Sprintf("EscapeForm(%q)", c.s), impl.EscapeForm(c.s), c.want)
	}
	for _, s := range notTexts() {
		wantText(t, fmt.Sprintf("EscapeForm(%q)", s), impl.EscapeForm(s), "")
	}
}

func TestPromise36EscapedFormsAreFilledByTheirText(t *testing.T) {
	texts := slices.Concat(someTexts(), textsOver("{}a", 7), edgeForms())
	for n := 50; n <= impl.MaxText; n++ {
		texts = append(texts, rep("{", n), rep("a", n-1)+"}", rep("{a} ", n/4))
	}
	for _, s := range texts {
		what := fmt.Sprintf("EscapeForm(%q)", s)
		form := impl.EscapeForm(s)
		if len(twice(s)) > impl.MaxText {
			wantText(t, what, form, "")
			continue
		}
		wantText(t, what, form, twice(s))
		wantList(t, "HolesOf of "+what, impl.HolesOf(form), nil)
		for _, fills := range [][]impl.Fill{nil, fillsOf("a", "x")} {
			got, ok := impl.FillForm(form, fills)
			wantFilled(t, "FillForm of "+what, got, ok, s)
		}
	}
}

// Promise 37.

func TestFillForm(t *testing.T) {
	for _, c := range []struct {
		form  string
		fills []impl.Fill
		want  string
	}{
		{"", nil, ""},
		{"", fillsOf("a", "x"), ""},
		{"a b", nil, "a b"},
		{"{{}}", nil, "{}"},
		{"{{a}}", fillsOf("a", "x"), "{a}"},
		{"{{{a}}}", fillsOf("a", "x"), "{x}"},
		{"{a}", fillsOf("a", ""), ""},
		{"{a}", fillsOf("a", " "), " "},
		{"{a} of {b}", fillsOf("b", "two", "a", "one"), "one of two"},
		{"{a}-{b}-{a}", fillsOf("a", "1", "b", "2"), "1-2-1"},
		{"{a}{a}{a}{a}{a}", fillsOf("a", "ab"), "ababababab"},
		{"{e}{d}{c}{b}{a}", fillsOf("a", "1", "b", "2", "c", "3", "d", "4", "e", "5"), "54321"},
		// What values have is no hole, and their brackets are as they are.
		{"{a}{b}", fillsOf("a", "{b}", "b", "x"), "{b}x"},
		{"{b}{a}", fillsOf("a", "{b}", "b", "{a}"), "{a}{b}"},
		{"{a}", fillsOf("a", "{{"), "{{"},
		{"{a}{a}", fillsOf("a", "}"), "}}"},
		{"{{{a}}}", fillsOf("a", "}{"), "{}{}"},
		{"{a}{{", fillsOf("a", "{x"), "{x{"},
		{"{ab}{a}", fillsOf("a", "1", "ab", "2"), "21"},
		{"{" + longName + "}", fillsOf(longName, "x", longName[1:], "y"), "x"},
		// The form is as long as it can be, or what becomes of it.
		{full, nil, full},
		{rep("{{", 60), nil, rep("{", 60)},
		{"{a}", fillsOf("a", full), full},
		{"{a}", fillsOf("a", rep("{", impl.MaxText)), rep("{", impl.MaxText)},
		{"{a}{b}{a}", fillsOf("a", full[60:], "b", ""), full},
		{"{a}{a}{a}{a}{a}", fillsOf("a", rep("}", 24)), rep("}", impl.MaxText)},
		{"{{" + full[5:] + "{a}", fillsOf("a", "abcd"), "{" + full[5:] + "abcd"},
		{full[3:] + "{a}", fillsOf("a", "abc"), full[3:] + "abc"},
	} {
		got, ok := impl.FillForm(c.form, c.fills)
		wantFilled(t, fmt.Sprintf("FillForm(%q, %q)", c.form, c.fills), got, ok, c.want)
	}
}

func TestFillFormThatIsNotFilled(t *testing.T) {
	for _, c := range []struct {
		form  string
		fills []impl.Fill
	}{
		{"{a}", nil},
		{"{a}", fillsOf("b", "x")},
		{"{a}", fillsOf("aa", "x")},
		{"{aa}", fillsOf("a", "x")},
		{"{a}{b}", fillsOf("a", "x")},
		{"{a}{b}", fillsOf("b", "x")},
		{"{a}{b}{a}", fillsOf("a", "{b}")},
		{"{a}{b}{c}{d}{e}", fillsOf("a", "", "b", "", "c", "", "d", "")},
		// These would be too long.
		{"{a}x", fillsOf("a", full)},
		{"{a}{{", fillsOf("a", full)},
		{"{a}{b}", fillsOf("a", full, "b", "x")},
		{"{a}{a}", fillsOf("a", full[59:])},
		{"{a}{a}{a}{a}{a}", fillsOf("a", rep("{", 25))},
		{"{a}{a}{a}{a}{a}", fillsOf("a", full)},
		{full[3:] + "{a}", fillsOf("a", "abcd")},
	} {
		got, ok := impl.FillForm(c.form, c.fills)
		wantNotFilled(t, fmt.Sprintf("FillForm(%q, %q)", c.form, c.fills), got, ok)
	}
}

func TestFillsOfOtherArguments(t *testing.T) {
	want := func(s string, fills []impl.Fill) {
		t.Helper()
		what := fmt.Sprintf("(%q, %q)", s, fills)
		got, ok := impl.FillForm(s, fills)
		wantNotFilled(t, "FillForm"+what, got, ok)
		got, ok = impl.FillSome(s, fills)
		wantNotFilled(t, "FillSome"+what, got, ok)
	}
	for _, s := range notForms() {
		for _, fills := range [][]impl.Fill{nil, fillsOf("a", "x"), fillsOf("a", "", "b", "", "c", "", "d", "", "e", "")} {
			want(s, fills)
		}
	}
	// Fills are wrong also where no hole has their name.
	for _, fills := range notFills() {
		for _, form := range []string{"", "x", "{{", "{a}", "{a}{b}", "{a}{b}{a}{{", "{a}{b}{c}{d}{e}"} {
			want(form, fills)
		}
	}
}

func TestFillFormOfManyForms(t *testing.T) {
	forForms(func(form string, fills []impl.Fill) {
		want, fits := formFilled(form, fills)
		got, ok := impl.FillForm(form, fills)
		wantSame(t, fmt.Sprintf("FillForm(%q, %q)", form, fills), got, ok, want, fits)
	})
}

func TestPromise37FormsCanBeFilledInTwoSteps(t *testing.T) {
	forForms(func(form string, fills []impl.Fill) {
		for n := range len(fills) + 1 {
			some, ok := impl.FillSome(form, fills[:n])
			if !ok {
				continue
			}
			what := fmt.Sprintf("FillForm(FillSome(%q, %q), %q)", form, fills[:n], fills[n:])
			want, there := impl.FillForm(form, fills)
			got, fine := impl.FillForm(some, fills[n:])
			wantSame(t, what, got, fine, want, there)
		}
	})
}

// Promise 38.

func TestFillSome(t *testing.T) {
	for _, c := range []struct {
		form  string
		fills []impl.Fill
		want  string
	}{
		{"", fillsOf("a", "x"), ""},
		{"{a}", fillsOf("a", ""), ""},
		{"{a}", fillsOf("a", "x"), "x"},
		{"{a}{b}", fillsOf("a", "x"), "x{b}"},
		{"{a}{b}{a}", fillsOf("a", "x"), "x{b}x"},
		{"{a}{b}{a}", fillsOf("b", "x"), "{a}x{a}"},
		{"{a}", fillsOf("a", "{"), "{{"},
		{"{a}", fillsOf("a", "}"), "}}"},
		{"{a}{c}", fillsOf("a", "{b}"), "{{b}}{c}"},
		{"{a}{b}", fillsOf("a", "{b}"), "{{b}}{b}"},
		{"{a}{b}", fillsOf("a", "{b}", "b", "{a}"), "{{b}}{{a}}"},
		{"{a}{b}", fillsOf("a", "{{", "b", "{{a}}"), "{{{{{{{{a}}}}"},
		{"{{a}}{a}", fillsOf("a", "x"), "{{a}}x"},
		{"{{{a}}}", fillsOf("a", "x"), "{{x}}"},
		{"{{{a}}}", fillsOf("b", "x"), "{{{a}}}"},
		{"{a}{c}}}", fillsOf("a", "{x", "b", ""), "{{x{c}}}"},
		{"{ab}{a}", fillsOf("a", "1"), "{ab}1"},
		{"{e}{d}{c}{b}{a}", fillsOf("a", "1", "c", "3", "e", "5"), "5{d}3{b}1"},
		{"{a}", fillsOf("a", full), full},
		{"{a}", fillsOf("a", rep("{", 60)), rep("{{", 60)},
		{"{b}{a}", fillsOf("a", full[3:]), "{b}" + full[3:]},
		{full[3:] + "{a}", fillsOf("a", "abc"), full[3:] + "abc"},
		{full[3:] + "{a}", fillsOf("b", "abcd"), full[3:] + "{a}"},
		{rep("{{", 58) + "{a}", fillsOf("a", "}}"), rep("{{", 58) + "}}}}"},
	} {
		got, ok := impl.FillSome(c.form, c.fills)
		wantFilled(t, fmt.Sprintf("FillSome(%q, %q)", c.form, c.fills), got, ok, c.want)
	}
}

func TestFillSomeThatWouldBeNoForm(t *testing.T) {
	for _, c := range []struct {
		form  string
		fills []impl.Fill
	}{
		{"{b}{a}", fillsOf("a", full[2:])},
		{full[3:] + "{a}", fillsOf("a", "abcd")},
		{full[3:] + "{a}", fillsOf("a", "{}")},
		{"{{{a}", fillsOf("a", full[1:])},
		{"{a}{a}", fillsOf("a", full[59:])},
		// What FillForm makes of these is a text.
		{"{a}", fillsOf("a", rep("{", 61))},
		{"{a}", fillsOf("a", rep("}", 61))},
		{"{a}", fillsOf("a", full[1:]+"{")},
		{"{a}{a}", fillsOf("a", rep("{", 31))},
		{rep("{{", 58) + "{a}", fillsOf("a", "{{{")},
	} {
		got, ok := impl.FillSome(c.form, c.fills)
		wantNotFilled(t, fmt.Sprintf("FillSome(%q, %q)", c.form, c.fills), got, ok)
	}
}

func TestPromise38SomeHolesAreLeft(t *testing.T) {
	forForms(func(form string, fills []impl.Fill) {
		what := fmt.Sprintf("FillSome(%q, %q)", form, fills)
		want, fits := someFilled(form, fills)
		got, ok := impl.FillSome(form, fills)
		wantSame(t, what, got, ok, want, fits)
		if !ok {
			return
		}
		if !impl.ValidForm(got) {
			t.Errorf("%s = %q is no form", what, got)
		}
		var left []string
		for _, name := range namesIn(form) {
			if _, there := valueOf(fills, name); !there {
				left = append(left, name)
			}
		}
		wantList(t, "HolesOf of "+what, impl.HolesOf(got), left)
	})
}

// Promise 39.

// wantMatch reports fills that are not the ones wanted, or that come with false.
func wantMatch(t *testing.T, form, text string, want []impl.Fill) {
	t.Helper()
	got, ok := impl.MatchForm(form, text)
	if !ok || !slices.Equal(got, want) {
		t.Errorf("MatchForm(%q, %q) = %q, %v, want %q", form, text, got, ok, want)
	}
}

// wantNoMatch reports fills that come with true, or with false but are not none.
func wantNoMatch(t *testing.T, form, text string) {
	t.Helper()
	if got, ok := impl.MatchForm(form, text); ok || len(got) != 0 {
		t.Errorf("MatchForm(%q, %q) = %q, %v", form, text, got, ok)
	}
}

func TestMatchForm(t *testing.T) {
	for _, c := range []struct {
		form, text string
		want       []impl.Fill
	}{
		{"", "", nil},
		{"a b", "a b", nil},
		{"{{", "{", nil},
		{"{{a}}", "{a}", nil},
		{"{a}", "", fillsOf("a", "")},
		{"{a}", "x y", fillsOf("a", "x y")},
		{"{a}", "{a}", fillsOf("a", "{a}")},
		{"{a}", "}{", fillsOf("a", "}{")},
		{"{{{a}}}", "{x}", fillsOf("a", "x")},
		{"{{{a}}}", "{{}}", fillsOf("a", "{}")},
		{"{{{a}}}", "{}", fillsOf("a", "")},
		{"({a})", "())", fillsOf("a", ")")},
		{"{a}{b}", "xy", fillsOf("a", "", "b", "xy")},
		{"{b}{a}", "xy", fillsOf("b", "", "a", "xy")},
		{"{a}x{b}", "axbxc", fillsOf("a", "a", "b", "bxc")},
		{"{a}x{b}x", "axbxcx", fillsOf("a", "a", "b", "bxc")},
		{"{a} of {b}", "one of two of", fillsOf("a", "one", "b", "two of")},
		{"{a}{b}{c}", "xyz", fillsOf("a", "", "b", "", "c", "xyz")},
		{"{c}-{a}-{b}", "1-2-3-4", fillsOf("c", "1", "a", "2", "b", "3-4")},
		{"{a}x", "axx", fillsOf("a", "ax")},
		{"x{a}", "xxa", fillsOf("a", "xa")},
		// A hole that comes twice has one value.
		{"{a}{a}", "", fillsOf("a", "")},
		{"{a}{a}", "abab", fillsOf("a", "ab")},
		{"{a}x{a}", "abxab", fillsOf("a", "ab")},
		{"{a}x{a}", "x", fillsOf("a", "")},
		{"{a}x{a}", "xxx", fillsOf("a", "x")},
		{"{a}x{a}", "{x{", fillsOf("a", "{")},
		{"{a}{a}{a}", "{}{}{}", fillsOf("a", "{}")},
		{"{a}{b}{a}", "abcab", fillsOf("a", "", "b", "abcab")},
		{"{a}-{b}-{a}", "1-2-3-1", fillsOf("a", "1", "b", "2-3")},
		{"{b}{a}{a}", "xaa", fillsOf("b", "x", "a", "a")},
		{"{b}{a}{a}", "aaa", fillsOf("b", "a", "a", "a")},
		{"{b}{a}{b}", "aabaa", fillsOf("b", "", "a", "aabaa")},
		{"{a}{b}{b}x", "yzzx", fillsOf("a", "y", "b", "z")},
		// The first name has the shorter value, also where others have longer ones for it.
		{"{a}{b}x{b}", "ppqxq", fillsOf("a", "pp", "b", "q")},
		{"{a}{b}x{b}", "xxx", fillsOf("a", "", "b", "x")},
		{"{a},{b};{c}", "a,b;c,d;e", fillsOf("a", "a", "b", "b", "c", "c,d;e")},
		{"{" + longName + "}", "v", fillsOf(longName, "v")},
		{"{a}", full, fillsOf("a", full)},
		{"{a}{a}", full, fillsOf("a", full[60:])},
		{"{a}{a}{a}", full, fillsOf("a", full[80:])},
		{"{a}{b}{c}y", full[1:] + "y", fillsOf("a", "", "b", "", "c", full[1:])},
		{full, full, nil},
		{full[3:] + "{a}", full, fillsOf("a", "xxx")},
		{rep("{{", 58) + "{a}", rep("{", impl.MaxText), fillsOf("a", rep("{", 62))},
	} {
		wantMatch(t, c.form, c.text, c.want)
	}
}

func TestMatchFormWithoutFills(t *testing.T) {
	for _, c := range [][2]string{
		{"", "a"}, {"a", ""}, {"a", "b"}, {"a", "aa"}, {"aa", "a"}, {"A", "a"}, {"{{", "{{"}, {"{{", ""}, {"{{a}}", "{{a}}"}, {"{{a}}", "a"},
		{"{a}x", ""}, {"{a}x", "xa"}, {"x{a}", "ax"}, {"{{{a}}}", "x"}, {"{{{a}}}", "{"}, {"{{{a}}}", "{x"}, {"{a}}}", "x"},
		{"{a}x{a}", "axb"}, {"{a}x{a}", "xx"}, {"{a}{a}", "a"}, {"{a}{a}", "aab"}, {"{a}{a}{a}", "aaaa"}, {"{a}-{b}-{a}", "1-2-3"}, {"{a}x{b}", "ab"},
		{"{a}{a}", full[1:]}, {"{a}{b}{c}y", full}, {"{a}{b}{c}yx", full}, {"{a}y{b}y{c}", full}, {"{a}{b}{c}{{", full}, {full, full[1:]}, {full[3:] + "{a}", full[4:]},
	} {
		wantNoMatch(t, c[0], c[1])
	}
}

func TestMatchFormOfOtherArguments(t *testing.T) {
	for _, s := range notForms() {
		for _, text := range []string{"", "a", "{", "}", "{}", "{a}"} {
			wantNoMatch(t, s, text)
		}
		if len(s) <= impl.MaxText {
			wantNoMatch(t, s, s)
		}
	}
	for _, text := range notTexts() {
		for _, form := range []string{"", "{a}", "{a}{b}", "x{a}", "{a}{a}"} {
			wantNoMatch(t, form, text)
		}
	}
	// These are forms, but they have more holes than can be matched, though some have few names.
	for _, form := range []string{"{a}{b}{c}{d}", "{a}{a}{a}{a}", "{a}{b}{a}{b}", "{a}x{b}y{c}z{a}", "{a}{b}{c}{d}{e}", rep("{a}", impl.MaxHoles)} {
		for _, text := range []string{"", "x", "abab", "aaaa", "axbyczd", form} {
			wantNoMatch(t, form, text)
		}
	}
}

// matchesOf returns all fills of the names, in their order, for which the form is the text: of values that stand in it.
func matchesOf(form, text string) [][]impl.Fill {
	parts := map[string]bool{}
	for i := range len(text) + 1 {
		for j := i; j <= len(text); j++ {
			parts[text[i:j]] = true
		}
	}
	values := slices.Sorted(maps.Keys(parts))
	lists := [][]impl.Fill{nil}
	for _, name := range namesIn(form) {
		var longer [][]impl.Fill
		for _, fills := range lists {
			for _, value := range values {
				longer = append(longer, append(slices.Clone(fills), impl.Fill{Name: name, Value: value}))
			}
		}
		lists = longer
	}
	return slices.DeleteFunc(lists, func(fills []impl.Fill) bool {
		made, ok := formFilled(form, fills)
		return !ok || made != text
	})
}

// isShorter reports whether a has the shorter value at the first name at which a and b differ.
func isShorter(a, b []impl.Fill) bool {
	for i, f := range a {
		if f != b[i] {
			return len(f.Value) < len(b[i].Value)
		}
	}
	return false
}

func TestPromise39MatchedFormsAreTheShortest(t *testing.T) {
	matched, left := 0, 0
	for _, parts := range listsOver([]string{"{a}", "{b}", "{c}", "x", "{{"}, 4) {
		form := strings.Join(parts, "")
		if len(holesIn(form)) > impl.MaxMatch || len(namesIn(form)) == 3 && len(parts) > 3 {
			continue
		}
		for _, text := range textsOver("x{", 4) {
			all := matchesOf(form, text)
			if len(all) == 0 {
				left++
				wantNoMatch(t, form, text)
				continue
			}
			best := all[0]
			for _, fills := range all {
				if isShorter(fills, best) {
					best = fills
				}
			}
			matched++
			wantMatch(t, form, text, best)
		}
	}
	if matched < 1000 || left < 1000 {
		t.Errorf("%d are matched, and %d are not", matched, left)
	}
}

func TestPromise39MatchedFormsAreFilledBack(t *testing.T) {
	forForms(func(form string, fills []impl.Fill) {
		text, ok := impl.FillForm(form, fills)
		if !ok {
			return
		}
		if len(holesIn(form)) > impl.MaxMatch {
			wantNoMatch(t, form, text)
			return
		}
		what := fmt.Sprintf("MatchForm(%q, %q)", form, text)
		found, ok := impl.MatchForm(form, text)
		if !ok {
			t.Errorf("%s is false", what)
			return
		}
		var names []string
		for _, f := range found {
			names = append(names, f.Name)
		}
		wantList(t, "names of "+what, names, namesIn(form))
		again, fine := impl.FillForm(form, found)
		wantFilled(t, "FillForm by "+what, again, fine, text)
	})
}

// The general conventions.

func TestFillsAreNotChanged(t *testing.T) {
	room := fillsOf("a", "{x", "b", "y", "behind", "behind")
	fills := room[:2]
	for range 2 {
		got, ok := impl.FillForm("{b}{a}{b}", fills)
		wantFilled(t, "FillForm", got, ok, "y{xy")
		got, ok = impl.FillSome("{c}{a}{b}{a}", fills)
		wantFilled(t, "FillSome", got, ok, "{c}{{xy{{x")
		got, ok = impl.FillForm("{a}{c}", fills)
		wantNotFilled(t, "FillForm", got, ok)
		if !slices.Equal(room, fillsOf("a", "{x", "b", "y", "behind", "behind")) {
			t.Fatalf("fills = %q", room)
		}
	}
}

func TestHolesAreNotKept(t *testing.T) {
	first := impl.HolesOf("{a}{b}{a}")
	wantList(t, "HolesOf", first, []string{"a", "b"})
	first[0] = "changed"
	_ = append(first, "changed")
	wantList(t, "HolesOf", impl.HolesOf("{a}{b}{a}"), []string{"a", "b"})
	// A value that is found is not that of the next call, nor is one that did not fit.
	for range 2 {
		wantMatch(t, "{a}-{b}", "1-2", fillsOf("a", "1", "b", "2"))
		wantNoMatch(t, "{a}-{b}", "12")
		wantMatch(t, "{b}+{a}", "3+4", fillsOf("b", "3", "a", "4"))
		found, _ := impl.MatchForm("{a}-{b}", "1-2")
		found[0].Value = "changed"
		_ = append(found, impl.Fill{})
	}
}
