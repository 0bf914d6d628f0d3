package uri

import (
	"fmt"
	"math/rand"
	"net/url"
	"strings"
	"testing"

	"gatehouse/api"
)

func decodes(t *testing.T, s, want string) {
	t.Helper()
	if got, e := Decode(s); got != want || e != api.OK {
		t.Errorf("%.80q: %.80q, %d, not %.80q", s, got, e, want)
	}
}

func doesNotDecode(t *testing.T, s string) {
	t.Helper()
	if got, e := Decode(s); got != "" || e != api.ErrTarget {
		t.Errorf("%.80q: %.80q, %d", s, got, e)
	}
}

func TestP804Decode(t *testing.T) {
	for s, want := range map[string]string{
		"": "", "abc": "abc", "%41%2f": "A/", "%2F%2e%2E": "/..", "a%20b": "a b", "%25": "%", "%2541": "%41", "%25%34%31": "%41",
		"%00": "\x00", "%ff%FF%fF": "\xff\xff\xff", "+": "+", "%2b+": "++", "a b\x00é": "a b\x00é", "%C3%A9": "é", "%aB": "\xab", "41": "41",
	} {
		decodes(t, s, want)
	}
	for _, s := range []string{"%", "%4", "%%", "%%41", "%4%41", "a%", "a%4", "%41%", "%41%4", "%zz", "%4g", "%g4", "% 4", "%4 ", "%+4", "%-4", "%0x41", "%4\x00", "%\x004", "%٣", "abc%4", "%2", "%u0041"} {
		doesNotDecode(t, s)
		doesNotDecode(t, "abc"+s)
		doesNotDecode(t, s+"%")
	}
}

func TestP804DecodeOfEachPair(t *testing.T) {
	const digits = "0123456789abcdef"
	for a := range 256 {
		for b := range 256 {
			s := string([]byte{'%', byte(a), byte(b)})
			high, low := strings.IndexByte(digits, small(byte(a))), strings.IndexByte(digits, small(byte(b)))
			if high < 0 || low < 0 {
				doesNotDecode(t, s)
				continue
			}
			decodes(t, s, string([]byte{byte(16*high + low)}))
			decodes(t, "x"+s+"41", "x"+string([]byte{byte(16*high + low)})+"41")
		}
	}
}

func small(b byte) byte {
	if b >= 'A' && b <= 'F' {
		return b + 32
	}
	return b
}

// The library decodes paths by the same words.
func TestP804Library(t *testing.T) {
	r := rand.New(rand.NewSource(3))
	for range 100000 {
		s := someOf(r, 8, "%", "%41", "%2", "%ff", "a", "F", "0", "+", "\xff", "/", "?", "%%", "%g0")
		want, err := url.PathUnescape(s)
		if err != nil {
			doesNotDecode(t, s)
			continue
		}
		decodes(t, s, want)
	}
}

func TestP804EncodeOfEachByte(t *testing.T) {
	for b := range 256 {
		want := fmt.Sprintf("%%%02X", b)
		if strings.IndexByte("ABCDEFGHIJKLMNOPQRSTUVWXYZabcdefghijklmnopqrstuvwxyz0123456789-._~/", byte(b)) >= 0 {
			want = string([]byte{byte(b)})
		}
		for _, around := range [][2]string{{"", ""}, {"a", ""}, {"", "%"}, {"/a/", "\xff"}} {
			s := around[0] + string([]byte{byte(b)}) + around[1]
			behind := strings.ReplaceAll(strings.ReplaceAll(around[1], "%", "%25"), "\xff", "%FF")
			if got := Encode(s); got != around[0]+want+behind {
				t.Errorf("%q: %q", s, got)
			}
		}
	}
}

func TestP804Encode(t *testing.T) {
	for s, want := range map[string]string{
		"": "", "/": "/", "/a b~é": "/a%20b~%C3%A9", "%41": "%2541", "a?b#c": "a%3Fb%23c", "\x00\x0a\x7f": "%00%0A%7F", "a+b": "a%2Bb", "/../.": "/../.",
	} {
		if got := Encode(s); got != want {
			t.Errorf("%q: %q, not %q", s, got, want)
		}
	}
}

func TestP807ThereAndBack(t *testing.T) {
	for _, s := range texts() {
		decodes(t, Encode(s), s)
		decodes(t, Encode(Encode(s)), Encode(s))
	}
	r := rand.New(rand.NewSource(4))
	for range 2000 {
		b := make([]byte, r.Intn(200))
		r.Read(b)
		decodes(t, Encode(string(b)), string(b))
	}
	b := make([]byte, api.MaxBytes)
	r.Read(b)
	decodes(t, Encode(string(b)), string(b))
}
