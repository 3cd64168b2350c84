package rle

import (
	"strings"

	"quilt/api"
	"quilt/rule"
)

// blanks may stand about each part of a head.
const blanks = " \t\r"

// behindNotes is where the first line begins that is no note.
func behindNotes(s string) int {
	at := 0
	for strings.HasPrefix(s[at:], "#") {
		length := strings.IndexByte(s[at:], '\n')
		if length < 0 {
			return len(s)
		}
		at += length + 1
	}
	return at
}

// readHead is the rule of a head, which is a line without its end.
func readHead(line string) (rule.Rule, error) {
	law, ok := lawOf(line)
	if !ok {
		return rule.Rule{}, api.ErrForm
	}
	r, err := rule.Parse(law)
	if err != nil {
		// A text that is no rule at all is ErrForm there, but here the head itself has its form.
		return rule.Rule{}, api.ErrRule
	}
	return r, nil
}

// lawOf is what a head has in place of a rule, and whether all ahead of that has its form.
func lawOf(line string) (string, bool) {
	rest := line
	for _, name := range [2]string{"x", "y"} {
		size, behind, ok := strings.Cut(rest, ",")
		if !ok || !isSize(size, name) {
			return "", false
		}
		rest = behind
	}
	name, law, ok := strings.Cut(rest, "=")
	if !ok || bare(name) != "rule" {
		return "", false
	}
	return bare(law), true
}

// isSize tells whether a part of a head is a number with its name.
func isSize(part, name string) bool {
	word, size, ok := strings.Cut(part, "=")
	return ok && bare(word) == name && isNumber(bare(size))
}

// isNumber tells whether s is nothing but a number that may be.
func isNumber(s string) bool {
	n, length := number(s)
	return length > 0 && length == len(s) && n <= most && (s == "0" || s[0] != '0')
}

// number is what the digits tell with which s begins, and how many they are. However many, a number above the greatest one is told as the next one above it.
func number(s string) (n, length int) {
	for length < len(s) && s[length] >= '0' && s[length] <= '9' {
		n = min(n*10+int(s[length]-'0'), most+1)
		length++
	}
	return n, length
}

// bare is a part without the blanks at both ends.
func bare(part string) string { return strings.Trim(part, blanks) }
