package bits

import (
	"bytes"
	"math"
	"testing"

	"gatehouse/api"
)

const full = 8 * api.MaxBytes

func put(t *testing.T, w *Writer, n, bits int) {
	t.Helper()
	if e := w.Put(n, bits); e != api.OK {
		t.Fatalf("Put(%d, %d): %d", n, bits, e)
	}
}

func hold(t *testing.T, w *Writer, bits int, want ...byte) {
	t.Helper()
	if got := w.Bytes(); !bytes.Equal(got, want) || w.Bits() != bits {
		t.Errorf("%d bits: %v, not %d: %v", w.Bits(), got, bits, want)
	}
}

// filled: a Writer in which so many bits have room yet.
func filled(t *testing.T, room int) *Writer {
	t.Helper()
	w := NewWriter()
	if e := w.Raw(bytes.Repeat([]byte{0xaa}, api.MaxBytes-(room+7)/8)); e != api.OK {
		t.Fatal(e)
	}
	put(t, w, 0, (8-room%8)%8)
	if w.Bits() != full-room {
		t.Fatal(w.Bits())
	}
	return w
}

func TestP202Put(t *testing.T) {
	w := NewWriter()
	hold(t, w, 0)
	put(t, w, 1, 1)
	hold(t, w, 1, 1)
	put(t, w, 2, 2)
	put(t, w, 5, 3)
	hold(t, w, 6, 45)
	put(t, w, 0, 0)
	hold(t, w, 6, 45)
	put(t, w, 3, 2)
	hold(t, w, 8, 45+64+128)
	put(t, w, 0x12345678, 32)
	hold(t, w, 40, 237, 0x78, 0x56, 0x34, 0x12)
	put(t, w, 0, 3)
	hold(t, w, 43, 237, 0x78, 0x56, 0x34, 0x12, 0)
	put(t, w, 1<<32-1, 32)
	hold(t, w, 75, 237, 0x78, 0x56, 0x34, 0x12, 0xf8, 255, 255, 255, 7)
}

func TestP202EachBitsPlace(t *testing.T) {
	for k := range 40 {
		for bits := 1; bits < 33; bits++ {
			w := NewWriter()
			put(t, w, 0, min(k, 32))
			put(t, w, 0, k-min(k, 32))
			put(t, w, 1<<(bits-1), bits)
			want := make([]byte, (k+bits+7)/8)
			want[(k+bits-1)/8] = byte(1 << ((k + bits - 1) % 8))
			hold(t, w, k+bits, want...)
		}
	}
}

func TestP202PutOfWrongNumbers(t *testing.T) {
	w := NewWriter()
	put(t, w, 5, 3)
	for _, c := range []struct{ n, bits int }{
		{0, -1}, {0, 33}, {0, 64}, {0, math.MinInt}, {0, math.MaxInt}, {1, 33}, {1 << 32, 33},
		{1, 0}, {-1, 0}, {-1, 1}, {-1, 32}, {2, 1}, {4, 2}, {8, 3}, {1 << 32, 32}, {1 << 32, 31}, {1 << 31, 31},
		{math.MaxInt, 32}, {math.MinInt, 32}, {math.MinInt, 0}, {math.MinInt, 1}, {1 << 32, 1},
	} {
		if e := w.Put(c.n, c.bits); e != api.ErrArg {
			t.Errorf("Put(%d, %d): %d", c.n, c.bits, e)
		}
	}
	hold(t, w, 3, 5)
	for bits := range 33 {
		if e := NewWriter().Put(1<<bits-1, bits); e != api.OK {
			t.Errorf("the greatest of %d bits: %d", bits, e)
		}
		if e := NewWriter().Put(1<<bits, bits); e != api.ErrArg {
			t.Errorf("one above the greatest of %d bits: %d", bits, e)
		}
	}
}

func TestP202PutOfTooMuch(t *testing.T) {
	for _, room := range []int{0, 1, 7, 8, 9, 31} {
		w := filled(t, room)
		before := w.Bytes()
		if e := w.Put(0, room+1); e != api.ErrSize || w.Bits() != full-room || !bytes.Equal(w.Bytes(), before) {
			t.Errorf("%d into room for %d: %d, %d bits", room+1, room, e, w.Bits())
		}
		if e := w.Put(2, 1); e != api.ErrArg {
			t.Errorf("a wrong number, that there is no room for, too: %d", e)
		}
		if e := w.Put(1<<room-1, room); e != api.OK || w.Bits() != full || len(w.Bytes()) != api.MaxBytes {
			t.Errorf("%d into room for just as many: %d, %d bits", room, e, w.Bits())
		}
		if e := w.Put(0, 0); e != api.OK || w.Bits() != full {
			t.Errorf("no bits into a full one: %d", e)
		}
		if w.Align(); w.Bits() != full {
			t.Errorf("Align of a full one: %d", w.Bits())
		}
	}
}

func TestP202BitByBit(t *testing.T) {
	w := NewWriter()
	for k := range full {
		if w.Put(k%3%2, 1) != api.OK {
			t.Fatal(k)
		}
	}
	if w.Put(0, 1) != api.ErrSize || w.Bits() != full {
		t.Error("one more")
	}
	if b := w.Bytes(); len(b) != api.MaxBytes || b[0] != 2+16+128 || b[1] != 4+32 || b[2] != 1+8+64 {
		t.Error(len(b), b[:3])
	}
}

func TestP202Align(t *testing.T) {
	for k := range 33 {
		w := NewWriter()
		put(t, w, 1<<k-1, k)
		before := w.Bytes()
		w.Align()
		hold(t, w, (k+7)/8*8, before...)
		w.Align()
		hold(t, w, (k+7)/8*8, before...)
		put(t, w, 1, 1)
		hold(t, w, (k+7)/8*8+1, append(before, 1)...)
	}
	w := filled(t, 3)
	if w.Align(); w.Bits() != full || w.Put(0, 1) != api.ErrSize {
		t.Error("Align up to the last bit")
	}
}

func TestP202Raw(t *testing.T) {
	w := NewWriter()
	raw := func(b ...byte) {
		if e := w.Raw(b); e != api.OK {
			t.Errorf("Raw(%v): %d", b, e)
		}
	}
	raw()
	hold(t, w, 0)
	raw(1, 2)
	hold(t, w, 16, 1, 2)
	put(t, w, 1, 1)
	raw(255)
	hold(t, w, 32, 1, 2, 1, 255)
	put(t, w, 3, 2)
	raw() // an Align, too
	hold(t, w, 40, 1, 2, 1, 255, 3)
	raw()
	put(t, w, 255, 8)
	raw(0)
	hold(t, w, 56, 1, 2, 1, 255, 3, 255, 0)
}

func TestP202RawOfTooMuch(t *testing.T) {
	for _, room := range []int{0, 1, 7, 8, 9, 15, 16} {
		w := filled(t, room)
		before := w.Bytes()
		more := bytes.Repeat([]byte{7}, room/8+1)
		if e := w.Raw(more); e != api.ErrSize || w.Bits() != full-room || !bytes.Equal(w.Bytes(), before) {
			t.Errorf("%d bytes into room for %d bits: %d, %d bits", len(more), room, e, w.Bits())
		}
		if e := w.Raw(more[1:]); e != api.OK || w.Bits() != full || !bytes.Equal(w.Bytes(), append(before, more[1:]...)) {
			t.Errorf("%d bytes into room for %d bits: %d, %d bits", len(more)-1, room, e, w.Bits())
		}
		if w.Raw([]byte{1}) != api.ErrSize || w.Raw(nil) != api.OK || w.Bits() != full {
			t.Error("Raw of a full one")
		}
	}
	w := NewWriter()
	if e := w.Raw(make([]byte, api.MaxBytes+1)); e != api.ErrSize || w.Bits() != 0 || len(w.Bytes()) != 0 {
		t.Error(e)
	}
	put(t, w, 0, 1)
	if e := w.Raw(make([]byte, api.MaxBytes)); e != api.ErrSize || w.Bits() != 1 {
		t.Errorf("without room for the Align: %d, %d bits", e, w.Bits())
	}
	if e := w.Raw(make([]byte, api.MaxBytes-1)); e != api.OK || w.Bits() != full {
		t.Error(e)
	}
}

func TestP201WritersThatNobodyMade(t *testing.T) {
	made := NewWriter()
	put(t, made, 5, 3)
	copied := *made
	for name, w := range map[string]*Writer{"nil": nil, "zero": {}, "new": new(Writer), "copied": &copied} {
		w.Align()
		if e := w.Put(0, 0); e != api.ErrArg {
			t.Errorf("%s: Put: %d", name, e)
		}
		if e := w.Put(1, 1); e != api.ErrArg {
			t.Errorf("%s: Put: %d", name, e)
		}
		if e := w.Raw([]byte{1}); e != api.ErrArg {
			t.Errorf("%s: Raw: %d", name, e)
		}
		if e := w.Raw(nil); e != api.ErrArg {
			t.Errorf("%s: Raw of nothing: %d", name, e)
		}
		if e := w.Raw(make([]byte, api.MaxBytes+1)); e != api.ErrArg {
			t.Errorf("%s: Raw of too much: %d", name, e)
		}
		if w.Bits() != 0 || len(w.Bytes()) != 0 {
			t.Errorf("%s: something is in it", name)
		}
	}
	hold(t, made, 3, 5)
}

// fill overwrites a list, and the room behind it.
func fill(b []byte) {
	b = b[:cap(b)]
	for i := range b {
		b[i] = 0xff
	}
}

func TestP201WriterSharesNothing(t *testing.T) {
	w := NewWriter()
	put(t, w, 1, 1)
	room := []byte{1, 2, 3, 4}
	if e := w.Raw(room[:2]); e != api.OK || !bytes.Equal(room, []byte{1, 2, 3, 4}) {
		t.Errorf("Raw: %d, changed to %v", e, room)
	}
	fill(room)
	hold(t, w, 24, 1, 1, 2)
	one, two := w.Bytes(), w.Bytes()
	fill(one)
	if !bytes.Equal(two, []byte{1, 1, 2}) {
		t.Errorf("two answers share: %v", two)
	}
	hold(t, w, 24, 1, 1, 2)
	put(t, w, 0, 4) // into the room behind
	hold(t, w, 28, 1, 1, 2, 0)
	put(t, w, 3, 2)
	if !bytes.Equal(two, []byte{1, 1, 2}) || !bytes.Equal(one, []byte{255, 255, 255}) {
		t.Error("what was answered changes")
	}
	if e := w.Raw(w.Bytes()); e != api.OK {
		t.Error(e)
	}
	hold(t, w, 64, 1, 1, 2, 48, 1, 1, 2, 48)
}

func TestP201WritersAreAlone(t *testing.T) {
	a, b := NewWriter(), NewWriter()
	put(t, a, 1, 1)
	hold(t, b, 0)
	put(t, b, 2, 2)
	hold(t, a, 1, 1)
	hold(t, b, 2, 2)
}
