package uri

import (
	"strings"

	"gatehouse/api"
)

// Clean: a path below its root; Resolve: of one that is coded.
func Clean(path string) (string, api.Errno) {
	if !strings.HasPrefix(path, "/") || len(path) > api.MaxPath || strings.IndexByte(path, 0) >= 0 {
		return "", api.ErrTarget
	}
	var left []string
	folder := false // does the path end as one that names a folder?
	for s := range strings.SplitSeq(path[1:], "/") {
		folder = s == "" || s == "." || s == ".."
		switch {
		case s == ".." && len(left) == 0:
			return "", api.ErrTarget
		case s == "..":
			left = left[:len(left)-1]
		case !folder:
			left = append(left, s)
		}
	}
	return join(left, folder), api.OK
}

// join: where no segments are left the path named a folder, so that its root's / is that one's.
func join(segments []string, folder bool) string {
	var out strings.Builder
	for _, s := range segments {
		out.WriteByte('/')
		out.WriteString(s)
	}
	if folder {
		out.WriteByte('/')
	}
	return out.String()
}

func Resolve(path string) (string, api.Errno) {
	s, e := Decode(path)
	if e != api.OK {
		return "", e
	}
	return Clean(s)
}
