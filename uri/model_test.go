package uri

import (
	"math/rand"
	"regexp"
	"strconv"
	"strings"
	"unsafe"

	"gatehouse/api"
)

// The chapter's words once more, as patterns.
const (
	hostPattern  = `((?:[A-Za-z0-9._~-]{1,255}|\[[0-9a-fA-F:.]{2,60}\]))(?::([0-9]{1,5}))?`
	pathBytes    = `!$%&'()*+,./0-9:;=@A-Z\[\]_a-z~-`
	pathPattern  = `(/[` + pathBytes + `]*)`
	queryPattern = `(\?([?` + pathBytes + `]*))?`
)

var (
	hostForm     = regexp.MustCompile(`^` + hostPattern + `$`)
	originForm   = regexp.MustCompile(`^` + pathPattern + queryPattern + `$`)
	absoluteForm = regexp.MustCompile(`^[Hh][Tt][Tt][Pp]://` + hostPattern + pathPattern + `?` + queryPattern + `$`)

	twoSlashes = regexp.MustCompile(`/(\.?/)+`)
	lastDot    = regexp.MustCompile(`/\.$`)
	lastDots   = regexp.MustCompile(`/\.\.$`)
	upAndDown  = regexp.MustCompile(`^((?:/\.\.)*)((?:/[^/]+)*?)/[^/]+/\.\./`)
)

func smallLetters(s string) string {
	return strings.Map(func(r rune) rune {
		if r >= 'A' && r <= 'Z' {
			return r + 32
		}
		return r
	}, s)
}

func modelPort(digits string) (int, bool) {
	if digits == "" {
		return -1, true
	}
	port, err := strconv.Atoi(digits)
	return port, err == nil && port < 65536
}

func modelHost(s string) (string, int, api.Errno) {
	m := hostForm.FindStringSubmatch(s)
	if m == nil {
		return "", 0, api.ErrTarget
	}
	port, ok := modelPort(m[2])
	if !ok {
		return "", 0, api.ErrTarget
	}
	return smallLetters(m[1]), port, api.OK
}

func modelParse(method, target string) (Target, api.Errno) {
	if len(target) > 8192 {
		return Target{}, api.ErrTarget
	}
	if method == "CONNECT" {
		h, port, e := modelHost(target)
		if e != api.OK || port < 0 {
			return Target{}, api.ErrTarget
		}
		return Target{Form: 3, Host: h, Port: port}, api.OK
	}
	if method == "OPTIONS" && target == "*" {
		return Target{Form: 4, Port: -1}, api.OK
	}
	if m := originForm.FindStringSubmatch(target); m != nil {
		return Target{Form: 1, Port: -1, Path: m[1], Query: m[3], Asked: m[2] != ""}, api.OK
	}
	m := absoluteForm.FindStringSubmatch(target)
	if m == nil {
		return Target{}, api.ErrTarget
	}
	port, ok := modelPort(m[2])
	if !ok {
		return Target{}, api.ErrTarget
	}
	if m[3] == "" {
		m[3] = "/"
	}
	return Target{Form: 2, Host: smallLetters(m[1]), Port: port, Path: m[3], Query: m[5], Asked: m[4] != ""}, api.OK
}

// modelClean: pieces of the text are replaced by shorter ones, till there is none.
func modelClean(p string) (string, api.Errno) {
	if !strings.HasPrefix(p, "/") || len(p) > 4096 || strings.Contains(p, "\x00") {
		return "", api.ErrTarget
	}
	p = lastDots.ReplaceAllString(p, "/../")
	p = lastDot.ReplaceAllString(p, "/")
	for {
		p = twoSlashes.ReplaceAllString(p, "/")
		if strings.HasPrefix(p, "/../") {
			return "", api.ErrTarget
		}
		shorter := upAndDown.ReplaceAllString(p, "$1$2/")
		if shorter == p {
			return p, api.OK
		}
		p = shorter
	}
}

// someOf: a text of these parts.
func someOf(r *rand.Rand, most int, parts ...string) string {
	var b strings.Builder
	for range r.Intn(most + 1) {
		b.WriteString(parts[r.Intn(len(parts))])
	}
	return b.String()
}

// shares: does one of both stand in the other's memory?
func shares(a, b string) bool {
	if a == "" || b == "" {
		return false
	}
	x, y := uintptr(unsafe.Pointer(unsafe.StringData(a))), uintptr(unsafe.Pointer(unsafe.StringData(b)))
	return x < y+uintptr(len(b)) && y < x+uintptr(len(a))
}
