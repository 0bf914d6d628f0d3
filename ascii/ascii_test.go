package ascii

import (
	"slices"
	"strings"
	"testing"
)

// texts: ordinary ones, edges and wrong ones, and each byte alone and between two letters.
func texts() []string {
	l := []string{"", " ", "\t", " \t ", "a", "GET", "a b", " a", "a ", "\ta", "a\t", "a\tb", "\r\n", "Host", "hOST", "content-length",
		"ÄÖ", "\u212a", "\xff\xfe", "\x00", "a\x7fb", "007", "+7", "-7", "fF", "0x1", "a, b,,c ", ",,,", strings.Repeat("aB ", 5000)}
	for b := range 256 {
		l = append(l, string([]byte{byte(b)}), string([]byte{'a', byte(b), 'Z'}))
	}
	return l
}

func TestP102TokenOfEachByte(t *testing.T) {
	for b := range 256 {
		want := b >= 'a' && b <= 'z' || b >= 'A' && b <= 'Z' || b >= '0' && b <= '9' || strings.IndexByte("!#$%&'*+-.^_`~|", byte(b)) >= 0
		for _, s := range []string{string([]byte{byte(b)}), string([]byte{'x', byte(b)}), string([]byte{byte(b), 'x'})} {
			if Token(s) != want {
				t.Errorf("Token(%q): %v", s, !want)
			}
		}
	}
}

func TestP102Token(t *testing.T) {
	for s, want := range map[string]bool{"": false, "GET": true, "a b": false, "a:b": false, "a\r\n": false, "x-y_z": true, "(a)": false, `a"`: false, "ä": false, "1": true} {
		if Token(s) != want {
			t.Errorf("Token(%q): %v", s, !want)
		}
	}
}

func TestP102ValueOfEachByte(t *testing.T) {
	for b := range 256 {
		inside := b == 9 || b >= 32 && b <= 126 || b >= 128
		if s := string([]byte{'x', byte(b), 'x'}); Value(s) != inside {
			t.Errorf("Value(%q): %v", s, !inside)
		}
		atEnd := inside && b != 9 && b != 32
		for _, s := range []string{string([]byte{byte(b)}), string([]byte{'x', byte(b)}), string([]byte{byte(b), 'x'})} {
			if Value(s) != atEnd {
				t.Errorf("Value(%q): %v", s, !atEnd)
			}
		}
	}
}

func TestP102Value(t *testing.T) {
	for s, want := range map[string]bool{"": true, "a b": true, " a": false, "a ": false, "\ta": false, "a\t": false, "a\tb": true, " ": false, "ä ö": true, "a\x00b": false, "a\nb": false, "\xa0": true} {
		if Value(s) != want {
			t.Errorf("Value(%q): %v", s, !want)
		}
	}
}

func TestP103LowerOfEachByte(t *testing.T) {
	for b := range 256 {
		want := byte(b)
		if at := strings.IndexByte("ABCDEFGHIJKLMNOPQRSTUVWXYZ", want); at >= 0 {
			want = "abcdefghijklmnopqrstuvwxyz"[at]
		}
		if got := Lower(string([]byte{'Q', byte(b), '-'})); got != string([]byte{'q', want, '-'}) {
			t.Errorf("Lower of %d: %q", b, got)
		}
	}
}

func TestP103Lower(t *testing.T) {
	for s, want := range map[string]string{"": "", "AbC": "abc", "AbÄ": "abÄ", "[@Z`{": "[@z`{", "\xc4\xff": "\xc4\xff", "\u212a": "\u212a"} {
		if got := Lower(s); got != want {
			t.Errorf("Lower(%q): %q", s, got)
		}
	}
}

func TestP103Equal(t *testing.T) {
	for _, c := range []struct {
		a, b string
		want bool
	}{
		{"Host", "hOST", true}, {"", "", true}, {"", "a", false}, {"a", "", false}, {"ab", "abc", false}, {"abc", "ab", false},
		{"ab", "ac", false}, {"bb", "ab", false}, {"@", "`", false}, {"[", "{", false}, {"Ä", "ä", false}, {"\u212a", "k", false}, {"\xff", "\xfe", false}, {"\r", "-", false},
	} {
		if Equal(c.a, c.b) != c.want {
			t.Errorf("Equal(%q, %q): %v", c.a, c.b, !c.want)
		}
	}
	for _, a := range texts() {
		for _, b := range []string{a, strings.ToUpper(a), "host", "a"} {
			if want := Lower(a) == Lower(b); Equal(a, b) != want || Equal(b, a) != want {
				t.Errorf("Equal(%q, %q): %v", a, b, !want)
			}
		}
	}
}

func TestP103Trim(t *testing.T) {
	for s, want := range map[string]string{"": "", " ": "", "\t \t": "", "a": "a", " \ta b\t": "a b", "\na\r": "\na\r", "  a\t b  ": "a\t b", "\xa0a\xa0": "\xa0a\xa0", "\va\f": "\va\f", "\x00 ": "\x00"} {
		if got := Trim(s); got != want {
			t.Errorf("Trim(%q): %q", s, got)
		}
	}
}

func TestP103Split(t *testing.T) {
	for _, c := range []struct {
		s    string
		sep  byte
		want []string
	}{
		{"a, b,,c ", ',', []string{"a", "b", "c"}},
		{"", ',', nil},
		{" \t", ',', nil},
		{",", ',', nil},
		{", ,\t,", ',', nil},
		{"a", ',', []string{"a"}},
		{" a b ; c", ';', []string{"a b", "c"}},
		{"a,b", ';', []string{"a,b"}},
		{"c,a,b,a", ',', []string{"c", "a", "b", "a"}},
		{"a b\tc", ' ', []string{"a", "b\tc"}},
		{"a b\tc", '\t', []string{"a b", "c"}},
		{"a\x00b", 0, []string{"a", "b"}},
		{"a\xc3\xa4\xc3b", 0xc3, []string{"a", "\xa4", "b"}},
		{"a\xffb\xff", 0xff, []string{"a", "b"}},
	} {
		if got := Split(c.s, c.sep); !slices.Equal(got, c.want) {
			t.Errorf("Split(%q, %d): %q", c.s, c.sep, got)
		}
	}
	if got := len(Split(strings.Repeat("x,", 100000), ',')); got != 100000 {
		t.Error(got)
	}
}

func TestP107NothingMoreChanges(t *testing.T) {
	for _, s := range texts() {
		if l := Lower(s); Lower(l) != l {
			t.Errorf("Lower of Lower of %q", s)
		}
		if l := Trim(s); Trim(l) != l {
			t.Errorf("Trim of Trim of %q", s)
		}
	}
}

func TestP101PureFunctions(t *testing.T) {
	for _, s := range texts() {
		a, e := Decimal(s)
		b, f := Hex(s)
		first := []any{Token(s), Value(s), Lower(s), Trim(s), Equal(s, "a"), a, e, b, f}
		l := Split(s, ',')
		kept := slices.Clone(l)
		again := Split(s, ',')
		for i := range again {
			again[i] = "changed"
		}
		a, e = Decimal(s)
		b, f = Hex(s)
		if second := []any{Token(s), Value(s), Lower(s), Trim(s), Equal(s, "a"), a, e, b, f}; !slices.Equal(first, second) {
			t.Errorf("%q: %v, then %v", s, first, second)
		}
		if !slices.Equal(l, kept) || !slices.Equal(Split(s, ','), kept) {
			t.Errorf("Split(%q) has another answer's memory", s)
		}
	}
}
