package gzip

const (
	polynomial = 3988292384
	atOnce     = 4 // bits
)

// table: what some bits become in the register. It is made anew for each sum, however short, so it is not one for whole bytes.
func table() [1 << atOnce]uint32 {
	var t [1 << atOnce]uint32
	for k := range t {
		register := uint32(k)
		for range atOnce {
			register = register>>1 ^ register&1*polynomial
		}
		t[k] = register
	}
	return t
}

// Crc: the sum; Add: goes on.
func Crc(b []byte) uint32 { return Add(0, b) }

func Add(sum uint32, b []byte) uint32 {
	t := table()
	register := ^sum
	for _, c := range b {
		register ^= uint32(c)
		for range 8 / atOnce {
			register = register>>atOnce ^ t[register%uint32(len(t))]
		}
	}
	return ^register
}
