package dist_test

import "strings"

// small are three bytes, held against each other in all short texts: the least one, an ordinary one, and the greatest.
const small = "\x00a\xff"

// texts are all texts of at most so many bytes, all of them bytes of these, the shorter ones first.
func texts(bytes string, most int) []string {
	l := []string{""}
	for from := 0; len(l[from]) < most; from++ {
		for i := range len(bytes) {
			l = append(l, l[from]+bytes[i:i+1])
		}
	}
	return l
}

// changed are all texts that one change makes of s, all of them of bytes of these, as chapter 17 tells the changes.
func changed(s, bytes string) []string {
	var l []string
	for i := range len(s) + 1 {
		for j := range len(bytes) {
			l = append(l, s[:i]+bytes[j:j+1]+s[i:])
		}
		if i == len(s) {
			break
		}
		l = append(l, s[:i]+s[i+1:])
		for j := range len(bytes) {
			if bytes[j] != s[i] {
				l = append(l, s[:i]+bytes[j:j+1]+s[i+1:])
			}
		}
	}
	return l
}

// spread is how far from s all texts of at most so many bytes are, all of them of bytes of these: change by change, with no row.
func spread(s, bytes string, most int) map[string]int {
	far := map[string]int{s: 0}
	for l := []string{s}; len(l) > 0; l = l[1:] {
		for _, t := range changed(l[0], bytes) {
			if _, is := far[t]; !is && len(t) <= most {
				far[t] = far[l[0]] + 1
				l = append(l, t)
			}
		}
	}
	return far
}

// plain is the distance of two texts, told from their ends on: the other way round than rows tell it.
func plain(a, b string) int {
	far := make([][]int, len(a)+1)
	for i := len(a); i >= 0; i-- {
		far[i] = make([]int, len(b)+1)
		for j := len(b); j >= 0; j-- {
			switch {
			case i == len(a):
				far[i][j] = len(b) - j
			case j == len(b):
				far[i][j] = len(a) - i
			case a[i] == b[j]:
				far[i][j] = far[i+1][j+1]
			default:
				far[i][j] = 1 + min(far[i+1][j+1], far[i+1][j], far[i][j+1])
			}
		}
	}
	return far[0][0]
}

// row is q's row behind these bytes, beginning by beginning.
func row(q, bytes string) []int {
	var l []int
	for i := range len(q) + 1 {
		l = append(l, plain(q[:i], bytes))
	}
	return l
}

// step is what of a row, be it one or not, is the row behind one byte more, as chapter 18 tells it of states.
func step(q string, row []int, c byte) []int {
	l := []int{row[0] + 1}
	for i := range len(q) {
		n := row[i]
		if q[i] != c {
			n++
		}
		l = append(l, min(n, row[i+1]+1, l[i]+1))
	}
	return l
}

// changes is how many changes a script has.
func changes(script string) int { return len(script) - strings.Count(script, "=") }

// made is what a script makes of a, with the bytes of b that it needs; false, if it is no script of them.
func made(script, a, b string) (string, bool) {
	var s strings.Builder
	i, j := 0, 0
	for n := range len(script) {
		letter := script[n]
		if strings.IndexByte("=x-+", letter) < 0 || letter != '+' && i == len(a) || letter != '-' && j == len(b) {
			return "", false
		}
		if letter != '+' && letter != '-' && (a[i] == b[j]) != (letter == '=') {
			return "", false
		}
		switch letter {
		case '=':
			s.WriteByte(a[i])
		case 'x', '+':
			s.WriteByte(b[j])
		}
		if letter != '+' {
			i++
		}
		if letter != '-' {
			j++
		}
	}
	return s.String(), i == len(a) && j == len(b)
}

// scripts tells all scripts of two texts, those with more changes than are needed too, and no matter in which order.
func scripts(a, b string, do func(script string)) {
	var from func(script, a, b string)
	from = func(script, a, b string) {
		if a == "" && b == "" {
			do(script)
			return
		}
		if a != "" && b != "" && a[0] == b[0] {
			from(script+"=", a[1:], b[1:])
		}
		if a != "" && b != "" && a[0] != b[0] {
			from(script+"x", a[1:], b[1:])
		}
		if a != "" {
			from(script+"-", a[1:], b)
		}
		if b != "" {
			from(script+"+", a, b[1:])
		}
	}
	from("", a, b)
}

// ahead tells whether a script is chosen ahead of another one: from their ends on, by the first letter that is another one.
func ahead(s, t string) bool {
	for i := 1; i <= min(len(s), len(t)); i++ {
		x, y := s[len(s)-i], t[len(t)-i]
		if x != y {
			return strings.IndexByte("=x-+", x) < strings.IndexByte("=x-+", y)
		}
	}
	return false
}

// chosen is the script that is asked for of two texts, found among all.
func chosen(a, b string) string {
	best, found := "", false
	scripts(a, b, func(s string) {
		if !found || changes(s) < changes(best) || changes(s) == changes(best) && ahead(s, best) {
			best, found = s, true
		}
	})
	return best
}

// led is the script that is asked for, led by the distances of beginnings, letter by letter from the end on.
func led(a, b string) string {
	s := ""
	for a != "" || b != "" {
		letter := final(a, b)
		s = letter + s
		if letter != "+" {
			a = front(a)
		}
		if letter != "-" {
			b = front(b)
		}
	}
	return s
}

// final is the last letter of the script that is asked for, of two texts that do not both have no bytes.
func final(a, b string) string {
	n := plain(a, b)
	both := a != "" && b != ""
	alike := both && a[len(a)-1] == b[len(b)-1]
	switch {
	case alike && plain(front(a), front(b)) == n:
		return "="
	case both && !alike && plain(front(a), front(b))+1 == n:
		return "x"
	case a != "" && plain(front(a), b)+1 == n:
		return "-"
	}
	return "+"
}

// front is a text without its last byte.
func front(s string) string { return s[:len(s)-1] }

// chance tells numbers that are always the same ones.
type chance uint64

// below is the next number, from 0 on, below n.
func (c *chance) below(n int) int {
	*c = *c*6364136223846793005 + 1442695040888963407
	return int(*c>>33) % n
}

// text is one of at most so many bytes, all of them bytes of these.
func (c *chance) text(bytes string, most int) string {
	s := make([]byte, c.below(most+1))
	for i := range s {
		s[i] = bytes[c.below(len(bytes))]
	}
	return string(s)
}

// near is a text that so many changes make of s, or fewer, all of bytes of these.
func (c *chance) near(s, bytes string, many int) string {
	for range many {
		at, b := c.below(len(s)+1), c.below(len(bytes))
		from := min(at+c.below(2), len(s))
		s = s[:at] + bytes[b:b+c.below(2)] + s[from:]
	}
	return s
}

// allBytes are all that there are, rising.
func allBytes() string {
	b := make([]byte, 256)
	for i := range b {
		b[i] = byte(i)
	}
	return string(b)
}
