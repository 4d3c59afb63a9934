package impl

import "strings"

// MaxText is the largest number of bytes of a text.
const MaxText = 120

// MaxLines is the largest number of lines.
const MaxLines = 20

// MaxTab is the greatest width of a tab.
const MaxTab = 12

// MaxIndent is the largest number of spaces ahead of lines.
const MaxIndent = 10

// margin is a number of spaces that lines lose or get ahead.
type margin int

// ValidText reports whether a text is one of plain bytes.
func ValidText(s string) bool {
	if len(s) > MaxText {
		return false
	}
	for _, r := range s {
		if !isPlain(r) {
			return false
		}
	}
	return true
}

// isPlain is false for all that is not ASCII, too, so a range by runes is as strict as one by bytes.
func isPlain(r rune) bool {
	return r >= ' ' && r <= '~'
}

// WordsOf returns the words of a text.
func WordsOf(s string) []string {
	if !ValidText(s) {
		return nil
	}
	var words []string
	start := 0
	for i, r := range s {
		if r == ' ' {
			words = appendWord(words, s[start:i])
			start = i + 1
		}
	}
	return appendWord(words, s[start:])
}

// appendWord leaves out what stands between two spaces side by side, as this is no word.
func appendWord(words []string, word string) []string {
	if word == "" {
		return words
	}
	return append(words, word)
}

// FoldText returns a text with one space between words.
func FoldText(s string) string {
	return strings.Join(WordsOf(s), " ")
}

// ExpandTabs returns a text with spaces for tabs.
func ExpandTabs(s string, width int) string {
	if !isTabbed(s) || width < 1 || width > MaxTab {
		return ""
	}
	var out strings.Builder
	for _, r := range s {
		if r == '\t' {
			// The place of a tab is that in the result, as tabs ahead of it are wider by then.
			out.WriteString(spaces(width - out.Len()%width))
		} else {
			out.WriteRune(r)
		}
	}
	return out.String()
}

// isTabbed reports whether s would be a text if its tabs were plain bytes.
func isTabbed(s string) bool {
	if len(s) > MaxText {
		return false
	}
	for _, r := range s {
		if r != '\t' && !isPlain(r) {
			return false
		}
	}
	return true
}

// TabText returns a text with tabs for spaces.
func TabText(s string, width int) string {
	if !ValidText(s) || width < 2 || width > MaxTab {
		return ""
	}
	var out strings.Builder
	for len(s) >= width {
		out.WriteString(tabBlock(s[:width]))
		s = s[width:]
	}
	// What is left ends at no multiple of the width, so its spaces stay.
	out.WriteString(s)
	return out.String()
}

// tabBlock puts a tab for the spaces at the end of a block as wide as a tab, where it saves at least a byte.
func tabBlock(block string) string {
	rest := strings.TrimRight(block, " ")
	if len(block)-len(rest) < 2 {
		return block
	}
	return rest + "\t"
}

// validLines reports whether lines are texts, and not too many.
func validLines(lines []string) bool {
	if len(lines) > MaxLines {
		return false
	}
	for _, line := range lines {
		if !ValidText(line) {
			return false
		}
	}
	return true
}

// MarginOf returns the least number of spaces ahead of lines.
func MarginOf(lines []string) int {
	if !validLines(lines) {
		return -1
	}
	least := -1
	for _, line := range lines {
		if isBlank(line) {
			continue
		}
		ahead := len(line) - len(strings.TrimLeft(line, " "))
		if least < 0 || ahead < least {
			least = ahead
		}
	}
	return max(least, 0)
}

// isBlank reports whether a line has no bytes but spaces.
func isBlank(line string) bool {
	return strings.TrimLeft(line, " ") == ""
}

// DedentLines returns lines without their margin.
func DedentLines(lines []string) []string {
	if !validLines(lines) {
		return nil
	}
	return changeLines(lines, emptyBlank, margin(MarginOf(lines)).takeOff)
}

// IndentLines returns lines with spaces ahead.
func IndentLines(lines []string, n int) ([]string, bool) {
	if !validLines(lines) || !isIndent(n) {
		return nil, false
	}
	out := changeLines(lines, emptyBlank, margin(n).putOn)
	if !validLines(out) {
		return nil, false
	}
	return out, true
}

// isIndent reports whether n spaces can stand ahead of lines.
func isIndent(n int) bool {
	return n >= 0 && n <= MaxIndent
}

// changeLines returns a copy of the lines, each one changed by all changes in their order.
func changeLines(lines []string, changes ...func(string) string) []string {
	out := make([]string, len(lines))
	copy(out, lines)
	for i := range out {
		for _, change := range changes {
			out[i] = change(out[i])
		}
	}
	return out
}

// emptyBlank returns a line, or "" for one without words.
func emptyBlank(line string) string {
	if isBlank(line) {
		return ""
	}
	return line
}

// takeOff returns a line without the margin; "" has none to lose.
func (m margin) takeOff(line string) string {
	if line == "" {
		return ""
	}
	return line[m:]
}

// putOn returns a line with the margin ahead; "" stays without spaces.
func (m margin) putOn(line string) string {
	if line == "" {
		return ""
	}
	return spaces(int(m)) + line
}

// PadText returns a text of a width.
func PadText(s string, width int, how string) string {
	if !ValidText(s) || width < 0 || width > MaxText || !isHow(how) {
		return ""
	}
	missing := max(width-len(s), 0)
	ahead := 0
	switch how {
	case "right":
		ahead = missing
	case "middle":
		ahead = missing / 2
	}
	return spaces(ahead) + s + spaces(missing-ahead)
}

// isHow reports whether it is a way to pad texts.
func isHow(how string) bool {
	return how == "left" || how == "right" || how == "middle"
}

// spaces returns n spaces.
func spaces(n int) string {
	return strings.Repeat(" ", n)
}
