package uri

import (
	"strings"

	"gatehouse/api"
	"gatehouse/ascii"
)

const (
	noPort   = -1
	mostPort = 65535

	mostName   = 255 // bytes
	mostDigits = 5   // of a port

	// Bytes between brackets.
	fewestInside = 2
	mostInside   = 60
)

// Host: a host and its port.
func Host(s string) (host string, port int, e api.Errno) {
	name, behind := cutName(s)
	if !isName(name) {
		return "", 0, api.ErrTarget
	}
	if port, e = portOf(behind); e != api.OK {
		return "", 0, e
	}
	return ascii.Lower(name), port, api.OK
}

// cutName: where brackets do not end there is no name.
func cutName(s string) (name, behind string) {
	if strings.HasPrefix(s, "[") {
		end := strings.IndexByte(s, ']') + 1
		return s[:end], s[end:]
	}
	if end := strings.IndexByte(s, ':'); end >= 0 {
		return s[:end], s[end:]
	}
	return s, ""
}

func isName(name string) bool {
	if strings.HasPrefix(name, "[") {
		inside := name[1 : len(name)-1]
		return len(inside) >= fewestInside && len(inside) <= mostInside && all(inside, oneOf(hexBytes+":."))
	}
	return name != "" && len(name) <= mostName && all(name, plainAnd("-._~"))
}

// portOf: of what stands behind a name.
func portOf(behind string) (int, api.Errno) {
	if behind == "" {
		return noPort, api.OK
	}
	digits, ok := strings.CutPrefix(behind, ":")
	if !ok || len(digits) > mostDigits {
		return 0, api.ErrTarget
	}
	port, e := ascii.Decimal(digits)
	if e != api.OK || port > mostPort {
		return 0, api.ErrTarget
	}
	return port, api.OK
}
