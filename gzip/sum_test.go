package gzip

import (
	"hash/crc32"
	"math/rand"
	"testing"

	"gatehouse/api"
)

func TestP702Examples(t *testing.T) {
	for _, c := range []struct {
		text string
		want uint32
	}{
		{"123456789", 3421780262},
		{"", 0},
		{"a", 3904355907},
		{"abc", 891568578},
		{"\x00", 3523407757},
		{"\x00\x00\x00\x00", 558161692},
		{"\xff", 4278190080},
		{"\xff\xff\xff\xff", 4294967295},
	} {
		if got := Crc([]byte(c.text)); got != c.want {
			t.Errorf("Crc(%q): %d, not %d", c.text, got, c.want)
		}
		if got := Add(0, []byte(c.text)); got != c.want {
			t.Errorf("Add(0, %q): %d, not %d", c.text, got, c.want)
		}
	}
	if Crc(nil) != 0 || Crc([]byte{}) != 0 {
		t.Error("the sum of nothing")
	}
}

// Each byte alone, each one behind each of the register's low bytes, and greater texts.
func TestP702Sums(t *testing.T) {
	for one := range 256 {
		for two := range 256 {
			for _, b := range [][]byte{{byte(one)}, {byte(one), byte(two)}} {
				if got, want := Crc(b), modelSum(b); got != want {
					t.Fatalf("Crc(% x): %d, not %d", b, got, want)
				}
			}
		}
	}
	r := rand.New(rand.NewSource(1))
	for size := range 300 {
		b := []byte(someText(r, size))
		if got := Crc(b); got != modelSum(b) || got != crc32.ChecksumIEEE(b) {
			t.Fatalf("Crc(% x): %d", b, got)
		}
	}
	b := make([]byte, api.MaxBytes+3)
	r.Read(b)
	if got := Crc(b); got != crc32.ChecksumIEEE(b) {
		t.Errorf("Crc of many bytes: %d", got)
	}
}

func TestP702AnySum(t *testing.T) {
	r := rand.New(rand.NewSource(2))
	for _, sum := range []uint32{0, 1, 15, 16, 1 << 31, 1<<32 - 1, 1<<32 - 2, 3988292384, r.Uint32(), r.Uint32()} {
		for _, b := range [][]byte{nil, {}, {0}, {255}, []byte("gatehouse")} {
			if got, want := Add(sum, b), crc32.Update(sum, crc32.IEEETable, b); got != want {
				t.Errorf("Add(%d, %q): %d, not %d", sum, b, got, want)
			}
		}
		if Add(sum, nil) != sum {
			t.Errorf("Add(%d, nothing): %d", sum, Add(sum, nil))
		}
	}
}

func TestP708GoesOn(t *testing.T) {
	if got := Add(Crc([]byte("1234")), []byte("56789")); got != 3421780262 {
		t.Error(got)
	}
	r := rand.New(rand.NewSource(3))
	for range 200 {
		text := someText(r, r.Intn(300))
		cut := r.Intn(len(text) + 1)
		want := modelSum([]byte(text))
		if got := Add(Crc([]byte(text[:cut])), []byte(text[cut:])); got != want {
			t.Errorf("%x, cut at %d: %d, not %d", text, cut, got, want)
		}
		sum := Crc(nil)
		for k := range len(text) {
			sum = Add(sum, []byte(text[k:k+1]))
		}
		if sum != want {
			t.Errorf("%x, byte by byte: %d, not %d", text, sum, want)
		}
	}
}

func TestP701Sums(t *testing.T) {
	room := []byte("123456789")
	for range 2 {
		if Crc(room[:3]) != 2286445522 || Add(7, room[:3]) != crc32.Update(7, crc32.IEEETable, room[:3]) || string(room) != "123456789" {
			t.Errorf("%d, %q", Crc(room[:3]), room)
		}
	}
}
