package uri

import (
	"strings"

	"gatehouse/api"
	"gatehouse/ascii"
)

// Decode, Encode: of %.
func Decode(s string) (string, api.Errno) {
	var out strings.Builder
	for {
		ahead, behind, found := strings.Cut(s, "%")
		out.WriteString(ahead)
		if !found {
			return out.String(), api.OK
		}
		if len(behind) < 2 {
			return "", api.ErrTarget
		}
		n, e := ascii.Hex(behind[:2])
		if e != api.OK {
			return "", api.ErrTarget
		}
		out.WriteByte(byte(n))
		s = behind[2:]
	}
}

func Encode(s string) string {
	const digits = "0123456789ABCDEF"
	var out strings.Builder
	stays := plainAnd("-._~/")
	for i := range len(s) {
		b := s[i]
		if stays(b) {
			out.WriteByte(b)
			continue
		}
		out.Write([]byte{'%', digits[b>>4], digits[b&15]})
	}
	return out.String()
}
