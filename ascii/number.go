package ascii

import (
	"strconv"

	"gatehouse/api"
)

// base: of numbers: how many digits it has, and the greatest number that is read.
type base interface {
	radix() int
	most() int
}

type ten struct{}

func (ten) radix() int { return 10 }

func (ten) most() int { return 1_000_000_000_000_000_000 }

type sixteen struct{}

func (sixteen) radix() int { return 16 }

func (sixteen) most() int { return 1 << 60 }

// digit: b's value; 16, if it is none of any base.
func digit(b byte) int {
	switch {
	case b >= '0' && b <= '9':
		return int(b - '0')
	case b >= 'a' && b <= 'f':
		return int(b-'a') + 10
	case b >= 'A' && b <= 'F':
		return int(b-'A') + 10
	}
	return 16
}

// read goes on to the end of a number that is too great: a byte behind that is no digit is the error that comes first.
func read[B base](s string) (int, api.Errno) {
	if s == "" {
		return 0, api.ErrNumber
	}
	var b B
	n, fits := 0, true
	for i := range len(s) {
		d := digit(s[i])
		if d >= b.radix() {
			return 0, api.ErrNumber
		}
		// Asked ahead of the sum, which could pass 64 bits.
		fits = fits && n <= (b.most()-d)/b.radix()
		if fits {
			n = n*b.radix() + d
		}
	}
	if !fits {
		return 0, api.ErrRange
	}
	return n, api.OK
}

// Decimal, Hex: numbers; Digits, HexDigits: back.
func Decimal(s string) (int, api.Errno) { return read[ten](s) }

func Hex(s string) (int, api.Errno) { return read[sixteen](s) }

func Digits(n int) string { return strconv.Itoa(n) }

func HexDigits(n int) string { return strconv.FormatUint(uint64(n), 16) }
