package uri

import "strings"

// class: may this byte stand there?
type class func(b byte) bool

// hexBytes: digits to the base 16.
const hexBytes = "0123456789abcdefABCDEF"

// neverInPath: bytes that a path has not, of those from 33 to 126.
const neverInPath = "\"#<>?\\^`{|}"

// plainAnd: letters, digits, and these marks.
func plainAnd(marks string) class {
	plain := oneOf("0123456789ABCDEFGHIJKLMNOPQRSTUVWXYZabcdefghijklmnopqrstuvwxyz")
	return func(b byte) bool { return plain(b) || strings.IndexByte(marks, b) >= 0 }
}

func oneOf(bytes string) class {
	return func(b byte) bool { return strings.IndexByte(bytes, b) >= 0 }
}

func pathByte() class {
	never := oneOf(neverInPath)
	return func(b byte) bool { return b >= 33 && b <= 126 && !never(b) }
}

func queryByte() class {
	inPath := pathByte()
	return func(b byte) bool { return b == '?' || inPath(b) }
}

// all: is every byte of s of this class?
func all(s string, is class) bool {
	for i := range len(s) {
		if !is(s[i]) {
			return false
		}
	}
	return true
}
