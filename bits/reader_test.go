package bits

import (
	"bytes"
	"math"
	"testing"

	"gatehouse/api"
)

func take(t *testing.T, r *Reader, bits, want int) {
	t.Helper()
	if n, e := r.Take(bits); n != want || e != api.OK {
		t.Errorf("Take(%d): %d, %d, not %d", bits, n, e, want)
	}
}

func left(t *testing.T, r *Reader, want int) {
	t.Helper()
	if r.Left() != want {
		t.Errorf("%d are left, not %d", r.Left(), want)
	}
}

func TestP203Take(t *testing.T) {
	r := NewReader([]byte{45, 0x78, 0x56, 0x34, 0x12, 255})
	left(t, r, 48)
	take(t, r, 1, 1)
	take(t, r, 2, 2)
	take(t, r, 0, 0)
	take(t, r, 3, 5)
	left(t, r, 42)
	take(t, r, 2, 0)
	take(t, r, 32, 0x12345678)
	take(t, r, 8, 255)
	left(t, r, 0)
	take(t, r, 0, 0)
	all := NewReader([]byte{255, 255, 255, 255, 255})
	take(t, all, 3, 7)
	take(t, all, 32, 1<<32-1)
	left(t, all, 5)
}

func TestP203EachBitsPlace(t *testing.T) {
	for k := range 64 {
		b := make([]byte, 8)
		b[k/8] = 1 << (k % 8)
		r := NewReader(b)
		for i := range 64 {
			want := 0
			if i == k {
				want = 1
			}
			take(t, r, 1, want)
		}
		r = NewReader(b)
		for from := 0; from < 64; from += 16 {
			want := 0
			if from <= k && k < from+16 {
				want = 1 << (k - from)
			}
			take(t, r, 16, want)
		}
	}
}

func TestP203TakeOfWrongNumbers(t *testing.T) {
	r := NewReader([]byte{45, 1, 2, 3, 4, 5, 6, 7, 8})
	take(t, r, 1, 1)
	empty := NewReader(nil)
	for _, bits := range []int{-1, 33, 64, math.MinInt, math.MaxInt} {
		for _, r := range []*Reader{r, empty} {
			if n, e := r.Take(bits); n != 0 || e != api.ErrArg {
				t.Errorf("Take(%d): %d, %d", bits, n, e)
			}
		}
	}
	left(t, r, 71)
	take(t, r, 5, 22)
}

func TestP203TakeOfTooMuch(t *testing.T) {
	for has := range 5 {
		for taken := range 8*has + 1 {
			r := NewReader(bytes.Repeat([]byte{255}, has))
			take(t, r, taken, 1<<taken-1)
			rest := 8*has - taken
			if n, e := r.Take(rest + 1); rest < 32 && (n != 0 || e != api.ErrEnd) {
				t.Errorf("Take(%d) of %d: %d, %d", rest+1, rest, n, e)
			}
			left(t, r, rest)
			take(t, r, rest, 1<<rest-1)
			left(t, r, 0)
			if n, e := r.Take(1); n != 0 || e != api.ErrEnd {
				t.Errorf("Take(1) of none: %d, %d", n, e)
			}
		}
	}
	for _, r := range []*Reader{NewReader(nil), NewReader([]byte{})} {
		left(t, r, 0)
		take(t, r, 0, 0)
		for bits := 1; bits < 33; bits++ {
			if n, e := r.Take(bits); n != 0 || e != api.ErrEnd {
				t.Errorf("Take(%d) of none: %d, %d", bits, n, e)
			}
		}
	}
}

func TestP203Align(t *testing.T) {
	for taken := range 33 {
		r := NewReader([]byte{255, 255, 255, 255, 255})
		take(t, r, taken, 1<<taken-1)
		for range 2 {
			r.Align()
			left(t, r, 40-(taken+7)/8*8)
		}
	}
	r := NewReader([]byte{1, 2, 3})
	r.Align()
	take(t, r, 1, 1)
	r.Align()
	take(t, r, 8, 2)
	r.Align()
	take(t, r, 2, 3)
	r.Align()
	left(t, r, 0)
	r.Align()
	left(t, r, 0)
	NewReader(nil).Align()
}

func TestP203Raw(t *testing.T) {
	r := NewReader([]byte{1, 2, 3, 4, 5, 6, 7})
	raw := func(n int, want ...byte) {
		t.Helper()
		if b, e := r.Raw(n); !bytes.Equal(b, want) || e != api.OK {
			t.Errorf("Raw(%d): %v, %d", n, b, e)
		}
	}
	raw(0)
	left(t, r, 56)
	raw(1, 1)
	take(t, r, 2, 2)
	raw(2, 3, 4)
	left(t, r, 24)
	take(t, r, 1, 1)
	raw(0) // an Align, too
	left(t, r, 16)
	take(t, r, 8, 6)
	raw(1, 7)
	raw(0)
	left(t, r, 0)
}

func TestP203RawOfTooMuch(t *testing.T) {
	r := NewReader([]byte{45, 7, 9})
	take(t, r, 6, 45)
	for _, n := range []int{-1, -8, math.MinInt} {
		if b, e := r.Raw(n); len(b) != 0 || e != api.ErrArg {
			t.Errorf("Raw(%d): %v, %d", n, b, e)
		}
	}
	for _, n := range []int{3, 4, 1 << 61, 1<<61 + 1, math.MaxInt} { // 8 * 2^61 is 0, where numbers wrap round
		if b, e := r.Raw(n); len(b) != 0 || e != api.ErrEnd {
			t.Errorf("Raw(%d): %v, %d", n, b, e)
		}
	}
	left(t, r, 18)
	take(t, r, 3, 4) // not even an Align
	if b, e := r.Raw(1); !bytes.Equal(b, []byte{9}) || e != api.OK {
		t.Error(b, e)
	}
	if b, e := r.Raw(1); len(b) != 0 || e != api.ErrEnd {
		t.Error(b, e)
	}
	if b, e := r.Raw(-1); len(b) != 0 || e != api.ErrArg {
		t.Error(b, e)
	}
	if b, e := NewReader(nil).Raw(0); len(b) != 0 || e != api.OK {
		t.Error(b, e)
	}
	if b, e := NewReader(nil).Raw(1); len(b) != 0 || e != api.ErrEnd {
		t.Error(b, e)
	}
}

// More bytes than a Writer holds: a Reader has no such bound.
func TestP203GreatReader(t *testing.T) {
	b := make([]byte, 2*api.MaxBytes)
	b[len(b)-1] = 5
	r := NewReader(b)
	left(t, r, 16*api.MaxBytes)
	if got, e := r.Raw(len(b) - 1); len(got) != len(b)-1 || e != api.OK {
		t.Error(len(got), e)
	}
	take(t, r, 8, 5)
}

func TestP201ReadersThatNobodyMade(t *testing.T) {
	made := NewReader([]byte{5, 6})
	take(t, made, 1, 1)
	copied := *made
	for name, r := range map[string]*Reader{"nil": nil, "zero": {}, "new": new(Reader), "copied": &copied} {
		r.Align()
		for _, bits := range []int{0, 1, 32} {
			if n, e := r.Take(bits); n != 0 || e != api.ErrArg {
				t.Errorf("%s: Take(%d): %d, %d", name, bits, n, e)
			}
		}
		for _, n := range []int{0, 1, math.MaxInt} {
			if b, e := r.Raw(n); len(b) != 0 || e != api.ErrArg {
				t.Errorf("%s: Raw(%d): %v, %d", name, n, b, e)
			}
		}
		if r.Left() != 0 {
			t.Errorf("%s: something is in it", name)
		}
	}
	left(t, made, 15)
	take(t, made, 4, 2)
}

func TestP201ReaderSharesNothing(t *testing.T) {
	room := []byte{1, 2, 3, 4, 5, 6}
	one, two := NewReader(room[:4]), NewReader(room[:4])
	if a, e := one.Raw(2); !bytes.Equal(a, []byte{1, 2}) || e != api.OK {
		t.Error(a, e)
	} else {
		fill(a) // and the room behind it: 3, 4, if it is the Reader's own
	}
	if !bytes.Equal(room, []byte{1, 2, 3, 4, 5, 6}) {
		t.Errorf("what was handed in is changed: %v", room)
	}
	fill(room)
	take(t, one, 16, 0x0403)
	take(t, two, 32, 0x04030201)
	left(t, one, 0)
}
