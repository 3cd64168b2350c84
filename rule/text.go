package rule

// signs are how many others than numbers a text has: B, / and S.
const signs = 3

// read is what a text tells, and whether it has the form of one. What it tells need not be a rule that may be.
func read(s string) (Rule, bool) {
	var r Rule
	seen := 0 // of the signs
	for _, c := range s {
		switch {
		case isSign(c, seen):
			seen++
		case seen == 1 && isNew(c, r.Born):
			r.Born |= bit(c)
		case seen == signs && isNew(c, r.Live):
			r.Live |= bit(c)
		default:
			return Rule{}, false
		}
	}
	return r, seen == signs
}

// isSign tells whether c is the sign that stands behind so many others.
func isSign(c rune, seen int) bool {
	switch seen {
	case 0:
		return c == 'B' || c == 'b'
	case 1:
		return c == '/'
	case 2:
		return c == 'S' || c == 's'
	}
	return false
}

// isNew tells whether c is a number that is not in a part yet.
func isNew(c rune, part uint16) bool { return bit(c)&^part != 0 }

// bit is that of a number of neighbours, and 0 if c tells none.
func bit(c rune) uint16 {
	if c < '0' || c > '0'+most {
		return 0
	}
	return 1 << (c - '0')
}

// digits are the numbers of a part, ascending.
func digits(part uint16) string {
	var l []rune
	for n := range most + 1 {
		if has(part, n) {
			l = append(l, '0'+rune(n))
		}
	}
	return string(l)
}
