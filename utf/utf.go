// Package utf: strict UTF-8: see doc/01-utf.md.
package utf

// The ends of what may be a character.
const (
	lastChar       = 0x10FFFF
	firstSurrogate = 0xD800
	lastSurrogate  = 0xDFFF
)

// From these numbers on a character takes two, three, four bytes.
const (
	firstOfTwo   = 0x80
	firstOfThree = 0x800
	firstOfFour  = 0x10000
)

// A byte behind the first one: how it is marked, and what it carries.
const (
	tailMark  = 0x80
	tailMask  = 0xC0
	tailBits  = 6
	tailValue = 1<<tailBits - 1
)

// Marks of first bytes, by how many bytes the character takes.
const (
	leadOfTwo   = 0xC0
	leadOfThree = 0xE0
	leadOfFour  = 0xF0
	leadOfNone  = 0xF8
)

// Read tells all characters of s; nil, false: not all of s is characters.
func Read(s string) ([]int, bool) {
	var l []int
	for len(s) > 0 {
		c, n := First(s)
		if n == 0 {
			return nil, false
		}
		l = append(l, c)
		s = s[n:]
	}
	return l, true
}

// Write makes the text of the characters of l; "", false: one is not Valid.
func Write(l []int) (string, bool) {
	var b []byte
	for _, c := range l {
		if !Valid(c) {
			return "", false
		}
		b = appendChar(b, c)
	}
	return string(b), true
}

// First tells the first character of s and how many bytes it takes;
// -1, 0: s is empty or begins with none.
func First(s string) (int, int) {
	if s == "" {
		return -1, 0
	}
	n, c := lead(s[0])
	if n == 0 || n > len(s) {
		return -1, 0
	}
	for i := 1; i < n; i++ {
		if s[i]&tailMask != tailMark {
			return -1, 0
		}
		c = c<<tailBits | int(s[i]&tailValue)
	}
	// The bits alone do not forbid a form that is too long, a surrogate, or
	// a number above the last character.
	if !Valid(c) || size(c) != n {
		return -1, 0
	}
	return c, n
}

// Valid tells whether c is a character's number.
func Valid(c int) bool {
	return 0 <= c && c <= lastChar && !(firstSurrogate <= c && c <= lastSurrogate)
}

// size tells how many bytes the shortest form of a Valid c takes.
func size(c int) int {
	switch {
	case c < firstOfTwo:
		return 1
	case c < firstOfThree:
		return 2
	case c < firstOfFour:
		return 3
	}
	return 4
}

// lead tells how many bytes a character takes that begins with b, and the
// bits of the character that b carries; 0, 0: none begins so.
func lead(b byte) (int, int) {
	switch {
	case b < tailMark:
		return 1, int(b)
	case b < leadOfTwo:
		return 0, 0
	case b < leadOfThree:
		return 2, int(b - leadOfTwo)
	case b < leadOfFour:
		return 3, int(b - leadOfThree)
	case b < leadOfNone:
		return 4, int(b - leadOfFour)
	}
	return 0, 0
}

// appendChar lays the shortest form of a Valid c behind b.
func appendChar(b []byte, c int) []byte {
	switch size(c) {
	case 1:
		return append(b, byte(c))
	case 2:
		return append(b, leadOfTwo|byte(c>>tailBits), tail(c, 0))
	case 3:
		return append(b, leadOfThree|byte(c>>(2*tailBits)), tail(c, 1), tail(c, 0))
	}
	return append(b, leadOfFour|byte(c>>(3*tailBits)), tail(c, 2), tail(c, 1), tail(c, 0))
}

// tail makes the byte behind the first one that has i such bytes behind it.
func tail(c, i int) byte {
	return tailMark | byte(c>>(i*tailBits))&tailValue
}
