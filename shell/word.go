package shell

// word is a word of a line; of a quoted one, the bytes that it denotes.
type word struct {
	text   string
	quoted bool
}

// words returns the words of a line, if there are no other than words in it.
func words(line string) ([]word, bool) {
	var l []word
	for {
		w, rest, ok := first(line)
		if !ok {
			return nil, false
		}
		l = append(l, w)
		if rest == "" {
			return l, true
		}
		if rest[0] != ' ' {
			return nil, false
		}
		line = rest[1:]
	}
}

// first returns the first word of s, and what follows it.
func first(s string) (word, string, bool) {
	if s != "" && s[0] == '"' {
		text, rest, ok := quoted(s[1:])
		return word{text: text, quoted: true}, rest, ok
	}
	n := 0
	for n < len(s) && s[n] > 32 && s[n] < 127 && s[n] != '"' {
		n++
	}
	return word{text: s[:n]}, s[n:], n > 0
}

// quoted returns what a quoted word denotes whose first quotation mark was taken, and what follows it.
func quoted(s string) (string, string, bool) {
	var b []byte
	for s != "" {
		c := s[0]
		switch {
		case c == '"':
			return string(b), s[1:], true
		case c == '\\':
			x, n := escaped(s)
			if n == 0 {
				return "", "", false
			}
			b = append(b, x)
			s = s[n:]
		case c < 32 || c > 126:
			return "", "", false
		default:
			b = append(b, c)
			s = s[1:]
		}
	}
	return "", "", false
}

// escaped returns the byte that s begins with, behind a backslash, and how many bytes of s it takes; 0 if there is none.
func escaped(s string) (byte, int) {
	if len(s) < 2 {
		return 0, 0
	}
	switch s[1] {
	case '"', '\\':
		return s[1], 2
	case 'n':
		return '\n', 2
	case 't':
		return '\t', 2
	case 'r':
		return '\r', 2
	case 'x':
		if len(s) >= 4 && digit(s[2]) >= 0 && digit(s[3]) >= 0 {
			return byte(16*digit(s[2]) + digit(s[3])), 4
		}
	}
	return 0, 0
}

// digit returns the value of a hexadecimal digit, -1 if c is none.
func digit(c byte) int {
	switch {
	case c >= '0' && c <= '9':
		return int(c - '0')
	case c >= 'a' && c <= 'f':
		return int(c-'a') + 10
	}
	return -1
}

// quote writes a quoted word that denotes s.
func quote(s string) string {
	const digits = "0123456789abcdef"
	b := []byte{'"'}
	for i := range len(s) {
		c := s[i]
		switch {
		case c == '"' || c == '\\':
			b = append(b, '\\', c)
		case c == '\n':
			b = append(b, '\\', 'n')
		case c == '\t':
			b = append(b, '\\', 't')
		case c == '\r':
			b = append(b, '\\', 'r')
		case c >= 32 && c <= 126:
			b = append(b, c)
		default:
			b = append(b, '\\', 'x', digits[c>>4], digits[c&15])
		}
	}
	return string(append(b, '"'))
}

// maxNumber is the greatest number that a word denotes.
const maxNumber = 1 << 62

// number returns the number that a plain word denotes.
func number(s string) (int, bool) {
	if s == "" || len(s) > 1 && s[0] == '0' {
		return 0, false
	}
	n := 0
	for i := range len(s) {
		d := int(s[i]) - '0'
		if d < 0 || d > 9 || n > (maxNumber-d)/10 {
			return 0, false
		}
		n = 10*n + d
	}
	return n, true
}
