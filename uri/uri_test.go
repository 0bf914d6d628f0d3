package uri

import (
	"math/rand"
	"strings"
	"testing"

	"gatehouse/api"
)

func parses(t *testing.T, method, target string, want Target) {
	t.Helper()
	if got, e := Parse(method, target); got != want || e != api.OK {
		t.Errorf("%s %.80q: %.200v, %d, not %.200v", method, target, got, e, want)
	}
}

func refuses(t *testing.T, method, target string) {
	t.Helper()
	if got, e := Parse(method, target); got != (Target{}) || e != api.ErrTarget {
		t.Errorf("%s %.80q: %.200v, %d", method, target, got, e)
	}
}

func TestP803Examples(t *testing.T) {
	parses(t, "GET", "/a%20b?c=d", Target{Form: Origin, Port: -1, Path: "/a%20b", Query: "c=d", Asked: true})
	parses(t, "GET", "HTTP://Ex.org:81", Target{Form: Absolute, Host: "ex.org", Port: 81, Path: "/"})
	parses(t, "CONNECT", "a:1", Target{Form: Authority, Host: "a", Port: 1})
	parses(t, "OPTIONS", "*", Target{Form: Asterisk, Port: -1})
	refuses(t, "GET", "*")
}

func TestP803Forms(t *testing.T) {
	if Origin != 1 || Absolute != 2 || Authority != 3 || Asterisk != 4 {
		t.Error(Origin, Absolute, Authority, Asterisk)
	}
}

func TestP803Authority(t *testing.T) {
	parses(t, "CONNECT", "EX.org:00443", Target{Form: Authority, Host: "ex.org", Port: 443})
	parses(t, "CONNECT", "[::A]:0", Target{Form: Authority, Host: "[::a]", Port: 0})
	for _, target := range []string{"", "a", "a:", "[::1]", ":1", "a:65536", "*", "/", "/a:1", "a:1/", "a:1?", "http://a:1", "http://a:1/", "u@a:1", "a:1 "} {
		refuses(t, "CONNECT", target)
	}
	for _, method := range []string{"GET", "OPTIONS", "connect", "CONNECT ", "CONNEC", ""} {
		refuses(t, method, "a:1")
		parses(t, method, "/a:1", Target{Form: Origin, Port: -1, Path: "/a:1"})
	}
}

func TestP803Asterisk(t *testing.T) {
	for _, method := range []string{"", "GET", "options", "OPTIONS ", "CONNECT", "TRACE"} {
		refuses(t, method, "*")
	}
	for _, target := range []string{"", "**", "*/", "*?", " *", "* "} {
		refuses(t, "OPTIONS", target)
	}
	parses(t, "OPTIONS", "/*", Target{Form: Origin, Port: -1, Path: "/*"})
	parses(t, "OPTIONS", "http://a", Target{Form: Absolute, Host: "a", Port: -1, Path: "/"})
}

func TestP803Origin(t *testing.T) {
	for _, c := range []struct {
		target, path, query string
		asked               bool
	}{
		{"/", "/", "", false},
		{"/?", "/", "", true},
		{"/??", "/", "?", true},
		{"/a?b?c/d", "/a", "b?c/d", true},
		{"//", "//", "", false},
		{"//a/b", "//a/b", "", false},
		{"/../%2e%2E/.", "/../%2e%2E/.", "", false},
		{"/%", "/%", "", false},
		{"/%zz?%", "/%zz", "%", true},
		{"/http://a", "/http://a", "", false},
		{"/A;b=c,d@e:f[g]!$&'()*+~_-", "/A;b=c,d@e:f[g]!$&'()*+~_-", "", false},
	} {
		for _, method := range []string{"GET", "HEAD", "POST", "OPTIONS", "x", ""} {
			parses(t, method, c.target, Target{Form: Origin, Port: -1, Path: c.path, Query: c.query, Asked: c.asked})
		}
		refuses(t, "CONNECT", c.target)
	}
	for _, target := range []string{"", " ", "a", "a/b", "?", "?a", "./a", " /a", "/a ", "/a b", "/a#b", "/#", "/a?b#c", "/a?b c", "/é", "/a\x00", "/a\t", "/a\r\n", `\a`, `/a\b`, "#", "%2fa"} {
		refuses(t, "GET", target)
	}
}

func TestP803Absolute(t *testing.T) {
	for _, c := range []struct {
		target string
		want   Target
	}{
		{"http://a", Target{Host: "a", Port: -1, Path: "/"}},
		{"hTTp://A", Target{Host: "a", Port: -1, Path: "/"}},
		{"http://a/", Target{Host: "a", Port: -1, Path: "/"}},
		{"http://a?", Target{Host: "a", Port: -1, Path: "/", Asked: true}},
		{"http://a?b/c?", Target{Host: "a", Port: -1, Path: "/", Query: "b/c?", Asked: true}},
		{"http://a:0/B?C", Target{Host: "a", Path: "/B", Query: "C", Asked: true}},
		{"http://[::AB]:81//x", Target{Host: "[::ab]", Port: 81, Path: "//x"}},
		{"http://[::1]?x", Target{Host: "[::1]", Port: -1, Path: "/", Query: "x", Asked: true}},
		{"http://a/http://b", Target{Host: "a", Port: -1, Path: "/http://b"}},
		{"http://a/..", Target{Host: "a", Port: -1, Path: "/.."}},
	} {
		c.want.Form = Absolute
		for _, method := range []string{"GET", "OPTIONS", "x", ""} {
			parses(t, method, c.target, c.want)
		}
		refuses(t, "CONNECT", c.target)
	}
	for _, target := range []string{"http://", "http:///", "http:///x", "http://?x", "http:/a", "http:a", "http//a", "http:", "https://a", "ftp://a", "://a", " http://a", "http://a b", "http://a#b", "http://u@a/", "http://a:/", "http://a:65536/", "http://:80/", "http://a:80:80/", "http://[::1/", "http://[::1]x/", "http://a/#", "http://a/b c", "http://a?#", "http://a?\"", "http://a*", "http://a%41/", "httq://a", "ıttp://a"} {
		refuses(t, "GET", target)
	}
}

func TestP803EachByte(t *testing.T) {
	for b := range 256 {
		s := string([]byte{byte(b)})
		for _, method := range []string{"GET", "OPTIONS", "CONNECT"} {
			for _, around := range [][2]string{{"", ""}, {"/", ""}, {"/x", "y"}, {"/?", ""}, {"/x?y", "z"}, {"http://", ""}, {"http://x", ""}, {"http://x", "y"}, {"http://x/", "y"}, {"http://x?y", "z"}, {"x", ":1"}, {"x:1", ""}, {"", "ttp://x"}, {"http:", "/x"}} {
				sameAsModel(t, method, around[0]+s+around[1])
			}
		}
	}
}

func sameAsModel(t *testing.T, method, target string) api.Errno {
	t.Helper()
	want, e := modelParse(method, target)
	if e != api.OK {
		refuses(t, method, target)
		return e
	}
	parses(t, method, target, want)
	return api.OK
}

func TestP803Model(t *testing.T) {
	r := rand.New(rand.NewSource(2))
	good := 0
	for range 100000 {
		method := someOf(r, 1, "GET", "OPTIONS", "CONNECT", "HEAD")
		target := someOf(r, 1, "/", "http://", "HTTP://a", "*", "a:1") + someOf(r, 7, "/", "a", "?", "%41", "..", ":8", "*", "B", "[::1]", "-", "#")
		if sameAsModel(t, method, target) == api.OK {
			good++
		}
	}
	if good < 10000 {
		t.Error(good)
	}
}

func TestP803Longest(t *testing.T) {
	for _, c := range []struct{ method, begin string }{{"GET", "/"}, {"GET", "/?"}, {"OPTIONS", "http://a/"}, {"GET", "http://a?"}, {"GET", "http://" + strings.Repeat("a", 255) + ":65535/"}} {
		target := c.begin + strings.Repeat("x", api.MaxLine-len(c.begin))
		want, _ := modelParse(c.method, target)
		parses(t, c.method, target, want)
		refuses(t, c.method, target+"x")
		refuses(t, c.method, target+strings.Repeat("x", api.MaxBytes))
	}
	refuses(t, "OPTIONS", "*"+strings.Repeat("x", api.MaxLine))
	refuses(t, "CONNECT", "a:"+strings.Repeat("0", api.MaxLine)+"1")
	refuses(t, "CONNECT", strings.Repeat("a", 256)+":1")
	parses(t, "CONNECT", strings.Repeat("a", 255)+":65535", Target{Form: Authority, Host: strings.Repeat("a", 255), Port: 65535})
	parses(t, strings.Repeat("M", api.MaxBytes), "/", Target{Form: Origin, Port: -1, Path: "/"})
}

// texts: targets, hosts, paths and what is none.
func texts() []string {
	l := []string{"", "/", "*", "a", "a:1", "[::1]:80", "http://Ex.org:81/a?b", "/a//b/../c/.", "/..", "/a%20b?c=d", "%", "%4", "%41%2f", "é ~", "\x00", strings.Repeat("/a", 2000), strings.Repeat("%41", 5000), strings.Repeat("x", api.MaxBytes)}
	for b := range 256 {
		l = append(l, string([]byte{byte(b)}), "/"+string([]byte{byte(b)}), "%"+string([]byte{byte(b)})+"0")
	}
	return l
}

type answers struct {
	target                                [2]Target
	host, decoded, encoded, clean, direct string
	port                                  int
	e                                     [6]api.Errno
}

func answersOf(s string) (a answers) {
	a.target[0], a.e[0] = Parse("GET", s)
	a.target[1], a.e[1] = Parse("CONNECT", s)
	a.host, a.port, a.e[2] = Host(s)
	a.decoded, a.e[3] = Decode(s)
	a.encoded = Encode(s)
	a.clean, a.e[4] = Clean(s)
	a.direct, a.e[5] = Resolve(s)
	return a
}

func TestP801PureFunctions(t *testing.T) {
	first := map[string]answers{}
	for _, s := range texts() {
		first[s] = answersOf(s)
	}
	for _, s := range texts() {
		if a := answersOf(s); a != first[s] {
			t.Errorf("%.40q: %.400v, then %.400v", s, first[s], a)
		}
	}
}

// What is answered stands in memory of its own.
func TestP801NewMemory(t *testing.T) {
	for _, s := range []string{"/", "/abc", "/abc?", "/abc/def?abc", "http://abc", "http://abc?x=y", "http://abc/d/e?f", "abc:12", "abc", "[::1]:80", "/a/./b/../c", "/%41", "abcdef"} {
		a, b := answersOf(s), answersOf(s)
		l := []string{s}
		for _, a := range []answers{a, b} {
			l = append(l, a.target[0].Host, a.target[0].Path, a.target[0].Query, a.target[1].Host, a.host, a.decoded, a.encoded, a.clean, a.direct)
		}
		for i := range l {
			for k := range i {
				if shares(l[k], l[i]) {
					t.Errorf("%q: %q and %q share memory (%d, %d)", s, l[k], l[i], k, i)
				}
			}
		}
	}
}

func TestP801ZeroBesideErrors(t *testing.T) {
	for _, s := range texts() {
		a := answersOf(s)
		for k, zero := range []bool{a.target[0] == Target{}, a.target[1] == Target{}, a.host == "" && a.port == 0, a.decoded == "", a.clean == "", a.direct == ""} {
			if a.e[k] != api.OK && (a.e[k] != api.ErrTarget || !zero) {
				t.Errorf("%.40q: %d: %.400v", s, k, a)
			}
		}
	}
}
