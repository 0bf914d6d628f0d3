package bits

import (
	"bytes"
	"math"
	"math/rand"
	"testing"

	"gatehouse/api"
)

func TestP204Reverse(t *testing.T) {
	for _, c := range []struct{ n, bits, want int }{
		{1, 3, 4}, {6, 3, 3}, {5, 3, 5}, {0, 8, 0}, {1, 1, 1}, {2, 1, 0}, {1, 2, 2}, {0x1234, 16, 0x2c48},
		{255, 2, 3}, {0x7ffffff8, 3, 0}, {9, 3, 4}, // bits of n above them
		{1, 0, 0}, {1, -1, 0}, {255, math.MinInt, 0},
		{1, 32, 1 << 31}, {1 << 31, 32, 1}, {1 << 32, 32, 0},
		{1, 33, 1 << 31}, {1, math.MaxInt, 1 << 31}, {1 << 32, 33, 0}, {1 << 32, 64, 0},
		{-1, 0, 0}, {-1, 5, 31}, {-1, 32, 1<<32 - 1}, {-1, 64, 1<<32 - 1}, {-2, 3, 3}, {math.MinInt, 32, 0}, {math.MaxInt, 32, 1<<32 - 1},
	} {
		if got := Reverse(c.n, c.bits); got != c.want {
			t.Errorf("Reverse(%d, %d): %d", c.n, c.bits, got)
		}
	}
	for bits := range 33 {
		for k := range 64 {
			want := 0
			if k < bits {
				want = 1 << (bits - 1 - k)
			}
			if got := Reverse(1<<k, bits); got != want {
				t.Errorf("Reverse(1 << %d, %d): %d", k, bits, got)
			}
		}
	}
}

func TestP206ReverseOfReverse(t *testing.T) {
	r := rand.New(rand.NewSource(1))
	for bits := -2; bits < 67; bits++ {
		low := 1<<max(0, min(bits, 32)) - 1
		for range 200 {
			n := int(r.Uint64())
			if got := Reverse(Reverse(n, bits), bits); got != n&low {
				t.Errorf("Reverse of Reverse of %d, of %d bits: %d", n, bits, got)
			}
		}
	}
}

type number struct{ n, bits int }

// numbers: some of each width, the least and the greatest ones among them.
func numbers(r *rand.Rand) []number {
	var l []number
	for range 300 {
		bits := r.Intn(33)
		top := 1<<bits - 1
		for _, n := range []int{r.Intn(top + 1), 0, top} {
			l = append(l, number{n, bits})
		}
	}
	r.Shuffle(len(l), func(i, k int) { l[i], l[k] = l[k], l[i] })
	return l
}

func TestP205ThereAndBack(t *testing.T) {
	for seed := range int64(20) {
		l := numbers(rand.New(rand.NewSource(seed)))
		w := NewWriter()
		sum := 0
		for _, c := range l {
			if e := w.Put(c.n, c.bits); e != api.OK {
				t.Fatalf("Put(%d, %d): %d", c.n, c.bits, e)
			}
			if sum += c.bits; w.Bits() != sum {
				t.Fatalf("%d bits, not %d", w.Bits(), sum)
			}
		}
		r := NewReader(w.Bytes())
		for _, c := range l {
			if n, e := r.Take(c.bits); n != c.n || e != api.OK {
				t.Fatalf("Take(%d): %d, %d, not %d", c.bits, n, e, c.n)
			}
		}
		if r.Left() != (8-sum%8)%8 {
			t.Errorf("%d are left of %d", r.Left(), sum)
		}
	}
}

// TestP205AmongBytes puts whole bytes and Aligns between the numbers.
func TestP205AmongBytes(t *testing.T) {
	for seed := range int64(20) {
		l := numbers(rand.New(rand.NewSource(seed)))
		w := NewWriter()
		for i, c := range l {
			w.Put(c.n, c.bits)
			switch i % 5 {
			case 1:
				w.Align()
			case 3:
				w.Raw([]byte{byte(i), byte(c.n)}[:i%3])
			}
		}
		r := NewReader(w.Bytes())
		for i, c := range l {
			if n, e := r.Take(c.bits); n != c.n || e != api.OK {
				t.Fatalf("Take(%d): %d, %d, not %d", c.bits, n, e, c.n)
			}
			switch i % 5 {
			case 1:
				r.Align()
			case 3:
				want := []byte{byte(i), byte(c.n)}[:i%3]
				if b, e := r.Raw(len(want)); !bytes.Equal(b, want) || e != api.OK {
					t.Fatalf("Raw(%d): %v, %d, not %v", len(want), b, e, want)
				}
			}
		}
	}
}
