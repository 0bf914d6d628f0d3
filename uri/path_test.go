package uri

import (
	"math/rand"
	"path"
	"slices"
	"strings"
	"testing"

	"gatehouse/api"
)

func cleans(t *testing.T, p, want string) {
	t.Helper()
	if got, e := Clean(p); got != want || e != api.OK {
		t.Errorf("%.80q: %.80q, %d, not %.80q", p, got, e, want)
	}
}

func isNoPath(t *testing.T, p string) {
	t.Helper()
	if got, e := Clean(p); got != "" || e != api.ErrTarget {
		t.Errorf("%.80q: %.80q, %d", p, got, e)
	}
}

func TestP805Clean(t *testing.T) {
	for p, want := range map[string]string{
		"/": "/", "//": "/", "///": "/", "/.": "/", "/./": "/", "/./.": "/", "/.//.": "/",
		"/a": "/a", "/a/": "/a/", "/a//": "/a/", "//a": "/a", "/a/.": "/a/", "/a/./": "/a/", "/./a": "/a", "/a//b": "/a/b",
		"/a/..": "/", "/a/../": "/", "/a/b/..": "/a/", "/a/b/../": "/a/", "/a/../b": "/b", "/a//../b": "/b", "/a/./../b": "/b", "/a/b/../..": "/", "/a/b/../../c": "/c", "/a/../b/..": "/",
		"/a//b/../c/.": "/a/c/", "/a/b/c/../../d": "/a/d",
		"/...": "/...", "/..a": "/..a", "/a..": "/a..", "/.a": "/.a", "/a.": "/a.", "/a/...": "/a/...", "/. ": "/. ", "/.. ": "/.. ",
		"/%2e%2e": "/%2e%2e", "/a b\n\xff?#": "/a b\n\xff?#", `/a\..\b`: `/a\..\b`, "/ ": "/ ", "/A": "/A",
	} {
		cleans(t, p, want)
	}
}

func TestP805Wrong(t *testing.T) {
	for _, p := range []string{
		"", "a", "a/", ".", "..", " /", "./a", "../a", "*", "%2fa", `\`,
		"/..", "/../", "/../a", "/./..", "//..", "/a/../..", "/a/../../a", "/a/../../a/b", "/a/b/../../..", "/a/../b/../..", "/../..",
		"\x00", "/\x00", "/a\x00", "/a\x00b", "/\x00/..", "/a/\x00/../b", "\x00/",
	} {
		isNoPath(t, p)
	}
}

func TestP805Longest(t *testing.T) {
	for _, c := range []struct{ part, want string }{
		{"x", "/" + strings.Repeat("x", 4095)},
		{"/", "/"},
		{"x/", "/" + strings.Repeat("x/", 2047) + "x"},
		{"./", "/"},
		{"x/../", "/"},
	} {
		p := ("/" + strings.Repeat(c.part, api.MaxPath))[:api.MaxPath]
		want := c.want
		if c.part == "x/../" {
			p = "/" + strings.Repeat(c.part, (api.MaxPath-1)/5)
		}
		cleans(t, p, want)
		for len(p) <= api.MaxPath {
			p += "/"
		}
		isNoPath(t, p)
		isNoPath(t, "/"+strings.Repeat(c.part, api.MaxBytes/5))
	}
}

func somePath(r *rand.Rand) string {
	return "/" + someOf(r, 9, "/", "/", ".", "..", "a", "b", "/a", "/b/", "/..", "/.", "/a/", "...", "\x01", "%", "é")
}

func TestP805Model(t *testing.T) {
	r := rand.New(rand.NewSource(5))
	good := 0
	for range 100000 {
		p := somePath(r)
		want, e := modelClean(p)
		if e != api.OK {
			isNoPath(t, p)
			continue
		}
		cleans(t, p, want)
		if library := path.Clean(p); want != library && want != library+"/" {
			t.Errorf("%q: %q, the library %q", p, want, library)
		}
		good++
	}
	if good < 10000 {
		t.Error(good)
	}
}

func TestP805Resolve(t *testing.T) {
	for p, want := range map[string]string{
		"/": "/", "/a%2fb": "/a/b", "%2fa": "/a", "/a/%2e%2e": "/", "/a/%2e": "/a/", "/a%2F%2fb/.%2E/c/.": "/a/c/", "/%252e%252e": "/%2e%2e", "/%20%25": "/ %", "/a?b": "/a?b", "/+": "/+", "/é%C3%A9": "/éé",
	} {
		if got, e := Resolve(p); got != want || e != api.OK {
			t.Errorf("%q: %q, %d, not %q", p, got, e, want)
		}
	}
	for _, p := range []string{"", "a", "%61", "/%", "/%4", "/%zz", "%", "/%2e%2e/x", "/.%2e", "/%2e%2e%2fx", "/a/..%2f..", "/%00", "/a/%00/..", "/a/%0", "/../%zz"} {
		if got, e := Resolve(p); got != "" || e != api.ErrTarget {
			t.Errorf("%q: %q, %d", p, got, e)
		}
	}
}

// The bound is for what was decoded.
func TestP805ResolveLongest(t *testing.T) {
	p := "/" + strings.Repeat("%61", api.MaxPath-1)
	if got, e := Resolve(p); got != "/"+strings.Repeat("a", api.MaxPath-1) || e != api.OK {
		t.Errorf("%.80q, %d", got, e)
	}
	if got, e := Resolve(p + "a"); got != "" || e != api.ErrTarget {
		t.Errorf("%.80q, %d", got, e)
	}
}

func TestP805ResolveModel(t *testing.T) {
	r := rand.New(rand.NewSource(6))
	for range 20000 {
		p := someOf(r, 9, "/", "%2f", "%2e", ".", "..", "a", "/a", "/%61/", "%", "%2", "%00", "/..", "/")
		want, e := Decode(p)
		if e == api.OK {
			want, e = Clean(want)
		}
		if got, f := Resolve(p); got != want || f != e {
			t.Errorf("%q: %q, %d, not %q, %d", p, got, f, want, e)
		}
	}
}

func TestP806Confined(t *testing.T) {
	r := rand.New(rand.NewSource(7))
	for range 50000 {
		p := somePath(r)
		got, e := Clean(p)
		if e != api.OK {
			continue
		}
		if !strings.HasPrefix(got, "/") {
			t.Errorf("%q: %q", p, got)
		}
		segments := strings.Split(got, "/")[1:]
		if slices.Contains(segments, ".") || slices.Contains(segments, "..") || slices.Contains(segments[:len(segments)-1], "") {
			t.Errorf("%q: %q", p, got)
		}
		cleans(t, got, got)
	}
}

func TestP808DownAndUp(t *testing.T) {
	r := rand.New(rand.NewSource(8))
	segments := []string{"x", "...", "a.b", "..x", " ", "%2e", "\xff", "é", strings.Repeat("y", 255)}
	check := func(a string) {
		want, e := Clean(a + "/")
		for _, x := range segments {
			if got, f := Clean(a + "/" + x + "/.."); got != want || f != e {
				t.Errorf("%q/%q/..: %q, %d, not %q, %d", a, x, got, f, want, e)
			}
		}
	}
	for _, a := range []string{"", "/", "/a", "/a/", "/a/b", "/.", "/a/..", "/..", "/a/../..", "a", "..", "/a\x00"} {
		check(a)
	}
	for range 5000 {
		check(somePath(r))
	}
}
