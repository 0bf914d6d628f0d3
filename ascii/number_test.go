package ascii

import (
	"math"
	"strings"
	"testing"

	"gatehouse/api"
)

type reading struct {
	s string
	n int
	e api.Errno
}

func check(t *testing.T, name string, read func(string) (int, api.Errno), l []reading) {
	t.Helper()
	for _, c := range l {
		if n, e := read(c.s); n != c.n || e != c.e {
			t.Errorf("%s(%.40q): %d, %d", name, c.s, n, e)
		}
	}
}

func TestP104Decimal(t *testing.T) {
	check(t, "Decimal", Decimal, []reading{
		{"0", 0, api.OK}, {"7", 7, api.OK}, {"007", 7, api.OK}, {"1234567890", 1234567890, api.OK},
		{"999999999999999999", 999999999999999999, api.OK},
		{"1000000000000000000", 1000000000000000000, api.OK},
		{strings.Repeat("0", 5000) + "1000000000000000000", 1000000000000000000, api.OK},
		{strings.Repeat("0", 5000), 0, api.OK},
		{"1000000000000000001", 0, api.ErrRange},
		{"01000000000000000001", 0, api.ErrRange},
		{"1000000000000000010", 0, api.ErrRange},
		{"10000000000000000010", 0, api.ErrRange}, // its beginning does not fit, that with the last digit alone would
		{"9223372036854775807", 0, api.ErrRange},
		{"9223372036854775808", 0, api.ErrRange},
		{"10000000000000000000", 0, api.ErrRange},
		{"18446744073709551617", 0, api.ErrRange}, // 2^64 + 1: 1, where numbers wrap round
		{"20000000000000000000", 0, api.ErrRange},
		{"1000000000000000000000000000000000000000", 0, api.ErrRange},
		{strings.Repeat("9", 5000), 0, api.ErrRange},
	})
}

func TestP104Hex(t *testing.T) {
	check(t, "Hex", Hex, []reading{
		{"0", 0, api.OK}, {"fF", 255, api.OK}, {"Aa", 170, api.OK}, {"10", 16, api.OK}, {"00000000000000000000ff", 255, api.OK},
		{"0123456789abcde", 0x123456789abcde, api.OK}, {"ABCDEF", 0xabcdef, api.OK},
		{"fffffffffffffff", 1<<60 - 1, api.OK},
		{"1000000000000000", 1 << 60, api.OK},
		{strings.Repeat("0", 5000) + "1000000000000000", 1 << 60, api.OK},
		{"1000000000000001", 0, api.ErrRange},
		{"100000000000000f", 0, api.ErrRange},
		{"10000000000000010", 0, api.ErrRange},
		{"7fffffffffffffff", 0, api.ErrRange},
		{"ffffffffffffffff", 0, api.ErrRange},
		{"10000000000000001", 0, api.ErrRange}, // 2^64 + 1
		{"20000000000000000", 0, api.ErrRange},
		{strings.Repeat("f", 5000), 0, api.ErrRange},
	})
}

func TestP104NoNumbers(t *testing.T) {
	wrong := []string{"", " ", "+7", "-7", "-0", "7 ", " 7", "7\n", "7.0", "7,0", "1_0", "0x7", "7h", "g", "G", "@", "`", "/", ":", "\xb2", "٣", "\x00"}
	wrong = append(wrong, strings.Repeat("9", 30)+"x", strings.Repeat("f", 30)+"-", "x"+strings.Repeat("9", 30)) // no number, and one that does not fit
	var l []reading
	for _, s := range wrong {
		l = append(l, reading{s, 0, api.ErrNumber})
	}
	check(t, "Decimal", Decimal, l)
	check(t, "Hex", Hex, l)
	check(t, "Decimal", Decimal, []reading{{"a", 0, api.ErrNumber}, {"1F", 0, api.ErrNumber}, {"1e3", 0, api.ErrNumber}})
}

func TestP104EachByte(t *testing.T) {
	for b := range 256 {
		s := string([]byte{'1', byte(b), '0'})
		dec, hex := reading{s, 0, api.ErrNumber}, reading{s, 0, api.ErrNumber}
		if d := strings.IndexByte("0123456789", byte(b)); d >= 0 {
			dec = reading{s, 100 + 10*d, api.OK}
		}
		if d := strings.IndexByte("0123456789abcdef", byte(b)); d >= 0 {
			hex = reading{s, 256 + 16*d, api.OK}
		}
		if d := strings.IndexByte("ABCDEF", byte(b)); d >= 0 {
			hex = reading{s, 256 + 16*(10+d), api.OK}
		}
		check(t, "Decimal", Decimal, []reading{dec})
		check(t, "Hex", Hex, []reading{hex})
	}
}

func TestP104Digits(t *testing.T) {
	for n, want := range map[int]string{0: "0", 7: "7", -1: "-1", -120: "-120", 1000000: "1000000", math.MaxInt: "9223372036854775807", math.MinInt: "-9223372036854775808"} {
		if got := Digits(n); got != want {
			t.Errorf("Digits(%d): %s", n, got)
		}
	}
	for n, want := range map[int]string{0: "0", 9: "9", 10: "a", 255: "ff", 0xABCDEF: "abcdef", -1: "ffffffffffffffff", -16: "fffffffffffffff0", math.MaxInt: "7fffffffffffffff", math.MinInt: "8000000000000000"} {
		if got := HexDigits(n); got != want {
			t.Errorf("HexDigits(%d): %s", n, got)
		}
	}
}

func TestP107ThereAndBack(t *testing.T) {
	both := func(n int) {
		if n <= 1_000_000_000_000_000_000 {
			check(t, "Decimal", Decimal, []reading{{Digits(n), n, api.OK}})
		}
		check(t, "Hex", Hex, []reading{{HexDigits(n), n, api.OK}})
	}
	for n := range 5000 {
		both(n)
	}
	for n, k := 1, 0; k <= 18; n, k = n*10, k+1 {
		both(n - 1)
		both(n)
	}
	for k := range 61 {
		both(1<<k - 1)
		both(1 << k)
	}
	for n, i := 12345, 0; i < 5000; i++ {
		n = (n*6364136223846793005 + 1442695040888963407) & (1<<62 - 1)
		both(n % (1_000_000_000_000_000_001))
		both(n % (1<<60 + 1))
	}
}
