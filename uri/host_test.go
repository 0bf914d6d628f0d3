package uri

import (
	"math/rand"
	"strconv"
	"strings"
	"testing"

	"gatehouse/api"
)

func isHost(t *testing.T, s, host string, port int) {
	t.Helper()
	if h, p, e := Host(s); h != host || p != port || e != api.OK {
		t.Errorf("%.80q: %.80q, %d, %d, not %.80q, %d", s, h, p, e, host, port)
	}
}

func noHost(t *testing.T, s string) {
	t.Helper()
	if h, p, e := Host(s); h != "" || p != 0 || e != api.ErrTarget {
		t.Errorf("%.80q: %.80q, %d, %d", s, h, p, e)
	}
}

func TestP802Names(t *testing.T) {
	isHost(t, "a", "a", -1)
	isHost(t, "Ex.org", "ex.org", -1)
	isHost(t, "Ex.org:81", "ex.org", 81)
	isHost(t, "AZ-._~az09", "az-._~az09", -1)
	isHost(t, "127.0.0.1:8080", "127.0.0.1", 8080)
	isHost(t, ".", ".", -1)
	isHost(t, "-:1", "-", 1)
	for _, s := range []string{"", ":", ":80", "a b", " a", "a ", "a/b", "a?", "a@b", "u@a:1", "a%20", "a*", "ä", "\u212a", "a\x00", "a\n", "a,b", "a:b:1", "::1", "a::1", "a:1:2"} {
		noHost(t, s)
	}
}

func TestP802LengthOfNames(t *testing.T) {
	name := strings.Repeat("Ab-", 85)
	isHost(t, name, strings.Repeat("ab-", 85), -1)
	isHost(t, name+":65535", strings.Repeat("ab-", 85), 65535)
	noHost(t, name+"a")
	noHost(t, name+"a:1")
	noHost(t, strings.Repeat("a", api.MaxBytes))
}

func TestP802Brackets(t *testing.T) {
	isHost(t, "[::1]", "[::1]", -1)
	isHost(t, "[::1]:8080", "[::1]", 8080)
	isHost(t, "[2001:DB8::aBcDeF]:0", "[2001:db8::abcdef]", 0)
	isHost(t, "[::ffff:1.2.3.4]", "[::ffff:1.2.3.4]", -1)
	isHost(t, "[::]", "[::]", -1)
	isHost(t, "[12]", "[12]", -1)
	for _, s := range []string{"[", "]", "[]", "[:]", "[1]", "[::1", "[::1:80", "::1]", "[::1]80", "[::1]a", "[::1]]", "[[::1]]", "[::g]", "[a-b]", "[::1%25x]", "[:: ]", "[v1.x]", "x[::1]", "[::1][::1]", "[]:80", "[::1] :80"} {
		noHost(t, s)
	}
	inside := strings.Repeat("0:A.", 15)
	isHost(t, "["+inside+"]", strings.ToLower("["+inside+"]"), -1)
	isHost(t, "["+inside+"]:7", strings.ToLower("["+inside+"]"), 7)
	noHost(t, "["+inside+"0]")
	noHost(t, "["+inside+"0]:7")
}

func TestP802Ports(t *testing.T) {
	for port := range 65536 {
		isHost(t, "A:"+strconv.Itoa(port), "a", port)
	}
	isHost(t, "a:00000", "a", 0)
	isHost(t, "a:00080", "a", 80)
	isHost(t, "[::1]:65535", "[::1]", 65535)
	for _, port := range []string{"", "65536", "65540", "66000", "70000", "99999", "000080", "100000", "4294967297", "18446744073709551617", strings.Repeat("9", 100), strings.Repeat("0", 100), "+1", "-1", "-0", " 1", "1 ", "8o", "0x1", "a", "80/", "80?", "1\n", "٣", ":1"} {
		noHost(t, "a:"+port)
		noHost(t, "[::1]:"+port)
	}
}

func TestP802EachByte(t *testing.T) {
	for b := range 256 {
		for _, around := range [][2]string{{"", ""}, {"x", "y"}, {"x", ""}, {"", "y"}, {"[0", "1]"}, {"[", "1:]:2"}, {"x:1", ""}, {"x", "1"}, {"[::]", ""}, {"[::]", "1"}} {
			s := around[0] + string([]byte{byte(b)}) + around[1]
			if host, port, e := modelHost(s); e == api.OK {
				isHost(t, s, host, port)
			} else {
				noHost(t, s)
			}
		}
	}
}

func TestP802Model(t *testing.T) {
	r := rand.New(rand.NewSource(1))
	good := 0
	for range 100000 {
		s := someOf(r, 8, "a", "Z", "9", ".", "-", ":", ":", "[", "]", "80", "65535", "65536", "f", "::", "_", "~", "/", " ")
		if r.Intn(3) == 0 {
			s = "[" + someOf(r, 30, "0:", "F", ":", ".") + "]" + someOf(r, 1, ":1", ":65536", "x")
		}
		host, port, e := modelHost(s)
		if e != api.OK {
			noHost(t, s)
			continue
		}
		isHost(t, s, host, port)
		isHost(t, host, host, -1)
		good++
	}
	if good < 10000 {
		t.Error(good)
	}
}
