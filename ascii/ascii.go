// Package ascii is layer 1: bytes of HTTP, numbers, queues: see shared/doc/01-ascii.md.
package ascii

import "strings"

// class: bits that tell where a byte may stand.
type class uint8

const (
	inToken class = 1 << iota
	inValue
)

const (
	tab        = 9
	blanks     = "\t "
	tokenBytes = "!#$%&'*+-.^_`|~0123456789ABCDEFGHIJKLMNOPQRSTUVWXYZabcdefghijklmnopqrstuvwxyz"
)

// classes: of each byte.
func classes() [256]class {
	var t [256]class
	for b := range t {
		if b == tab || b >= 32 && b != 127 {
			t[b] = inValue
		}
	}
	for i := range len(tokenBytes) {
		t[tokenBytes[i]] |= inToken
	}
	return t
}

// all: is every byte of s of this class?
func all(s string, c class) bool {
	t := classes()
	for i := range len(s) {
		if t[s[i]]&c == 0 {
			return false
		}
	}
	return true
}

// Token, Value: may it stand there?
func Token(s string) bool { return s != "" && all(s, inToken) }

func Value(s string) bool { return strings.Trim(s, blanks) == s && all(s, inValue) }

// small: one byte's. The library's lower case knows letters beyond A to Z, so it does not serve here.
func small(b byte) byte {
	if b >= 'A' && b <= 'Z' {
		return b - 'A' + 'a'
	}
	return b
}

// Lower, Equal, Trim, Split: of letters, blanks, lists.
func Lower(s string) string {
	b := []byte(s)
	for i := range b {
		b[i] = small(b[i])
	}
	return string(b)
}

func Equal(a, b string) bool {
	if len(a) != len(b) {
		return false
	}
	for i := range len(a) {
		if small(a[i]) != small(b[i]) {
			return false
		}
	}
	return true
}

// Trim copies what is left: a short piece that is kept must not hold the long text that it was cut from.
func Trim(s string) string { return strings.Clone(strings.Trim(s, blanks)) }

func Split(s string, sep byte) []string {
	var l []string
	for part := range strings.SplitSeq(s, string([]byte{sep})) {
		if part = Trim(part); part != "" {
			l = append(l, part)
		}
	}
	return l
}
