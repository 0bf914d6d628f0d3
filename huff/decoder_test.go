package huff

import (
	"math/rand"
	"testing"

	"gatehouse/api"
	"gatehouse/bits"
)

func decoder(t *testing.T, lengths ...int) *Decoder {
	t.Helper()
	d, e := NewDecoder(lengths)
	if d == nil || e != api.OK {
		t.Fatalf("NewDecoder(%v): %v, %d", lengths, d, e)
	}
	return d
}

// reader: of bits as they are taken, told by 0 and 1, and of those 0 that fill the last byte.
func reader(t *testing.T, text string) *bits.Reader {
	t.Helper()
	w := bits.NewWriter()
	for _, c := range text {
		if e := w.Put(int(c-'0'), 1); e != api.OK {
			t.Fatal(e)
		}
	}
	return bits.NewReader(w.Bytes())
}

func next(t *testing.T, d *Decoder, r *bits.Reader, symbol int, e api.Errno, left int) {
	t.Helper()
	if s, f := d.Next(r); s != symbol || f != e || r.Left() != left {
		t.Errorf("Next: %d, %d, %d are left, not %d, %d, %d", s, f, r.Left(), symbol, e, left)
	}
}

func TestP304Next(t *testing.T) {
	d := decoder(t, 3, 3, 3, 3, 3, 2, 4, 4)
	r := reader(t, "00"+"1111"+"010"+"1110"+"110"+"011"+"00"+"101"+"100")
	left := 32
	for _, c := range []struct{ symbol, bits int }{{5, 2}, {7, 4}, {0, 3}, {6, 4}, {4, 3}, {1, 3}, {5, 2}, {3, 3}, {2, 3}, {5, 2}, {5, 2}} {
		left -= c.bits
		next(t, d, r, c.symbol, api.OK, left)
	}
	next(t, d, r, 0, api.ErrEnd, 0) // one bit was left
	next(t, d, r, 0, api.ErrEnd, 0)
}

func TestP304NextOfOneCode(t *testing.T) {
	d := decoder(t, 0, 0, 1, 0)
	next(t, d, reader(t, "00000000"), 2, api.OK, 7)
	next(t, d, reader(t, "0111111111111111"), 2, api.OK, 15)
	next(t, d, reader(t, "1000000000000000"), 0, api.ErrCode, 1)
	next(t, d, reader(t, "11111111"), 0, api.ErrEnd, 0)
	long := decoder(t, 15)
	next(t, long, reader(t, "0000000000000001"), 0, api.OK, 1)
	next(t, long, reader(t, "0000000000000011"), 0, api.ErrCode, 1)
	next(t, long, reader(t, "00000000"), 0, api.ErrEnd, 0)
}

func TestP304NextOfLongCodes(t *testing.T) {
	d := decoder(t, 1, 2, 3, 4, 5, 6, 7, 8, 9, 10, 11, 12, 13, 14, 15, 15)
	text := ""
	for s := range 15 {
		next(t, d, reader(t, text+"0"+"0000000000000000"[len(text)+1:]), s, api.OK, 16-len(text)-1)
		text += "1"
	}
	next(t, d, reader(t, text+"0"), 15, api.OK, 1)
	open := decoder(t, 1, 2, 3, 4, 5, 6, 7, 8, 9, 10, 11, 12, 13, 14, 15)
	next(t, open, reader(t, text[:14]+"01"), 14, api.OK, 1)
	next(t, open, reader(t, text+"0"), 0, api.ErrCode, 1)
}

// 15 bits are taken, though the first one begins no code already; and what stands behind them is read.
func TestP304BitsThatWereTakenStayTaken(t *testing.T) {
	d := decoder(t, 0, 2, 2)
	r := reader(t, "01"+"10"+"0000000000000"+"00"+"01"+"111")
	next(t, d, r, 2, api.OK, 22)
	next(t, d, r, 0, api.ErrCode, 7)
	next(t, d, r, 1, api.OK, 5)
	next(t, d, r, 2, api.OK, 3)
	next(t, d, r, 0, api.ErrEnd, 0)
	next(t, d, bits.NewReader(nil), 0, api.ErrEnd, 0)
	short := reader(t, "1000000000000000")
	short.Take(2)
	next(t, d, short, 1, api.OK, 12)
	short = reader(t, "1110000000000000")
	short.Take(2) // 14 bits are left
	next(t, d, short, 0, api.ErrEnd, 0)
}

func TestP304NoCodes(t *testing.T) {
	for _, lengths := range [][]int{nil, {}, {0}, make([]int, 320)} {
		d := decoder(t, lengths...)
		r := reader(t, "01010101")
		next(t, d, r, 0, api.ErrCode, 8)
		next(t, d, r, 0, api.ErrCode, 8)
		next(t, d, bits.NewReader(nil), 0, api.ErrCode, 0)
		next(t, d, nil, 0, api.ErrArg, 0)
		next(t, d, new(bits.Reader), 0, api.ErrArg, 0)
	}
}

// Symbols are read among other numbers, and by two Decoders in turn.
func TestP304OneReaderOfSeveral(t *testing.T) {
	a, b := decoder(t, 1, 2, 2), decoder(t, 2, 2, 2, 2)
	r := reader(t, "11"+"101"+"01"+"0"+"11"+"11"+"1010")
	next(t, a, r, 2, api.OK, 14)
	if n, e := r.Take(3); n != 5 || e != api.OK {
		t.Error(n, e)
	}
	next(t, b, r, 1, api.OK, 9)
	next(t, a, r, 0, api.OK, 8)
	next(t, b, r, 3, api.OK, 6)
	next(t, a, r, 2, api.OK, 4)
	next(t, a, r, 1, api.OK, 2)
	next(t, b, r, 2, api.OK, 0)
}

func TestP306Decoded(t *testing.T) {
	r := rand.New(rand.NewSource(1))
	for round := range 150 {
		lengths := some(r, 320)
		if round%3 == 0 {
			lengths, _ = Lengths(drawn(r, 320), 9+r.Intn(7))
		}
		codes, e := Codes(lengths)
		if e != api.OK {
			t.Fatal(e)
		}
		w := bits.NewWriter()
		var symbols []int
		for range 1000 {
			s := r.Intn(len(lengths))
			if e := Put(w, codes, lengths, s); lengths[s] == 0 && e != api.ErrArg || lengths[s] != 0 && e != api.OK {
				t.Fatal(s, lengths[s], e)
			}
			if lengths[s] != 0 {
				symbols = append(symbols, s)
			}
		}
		d, in := decoder(t, lengths...), bits.NewReader(w.Bytes())
		for _, want := range symbols {
			if s, e := d.Next(in); s != want || e != api.OK {
				t.Fatalf("%v: %d, %d, not %d", lengths, s, e, want)
			}
		}
		if in.Left() != len(w.Bytes())*8-w.Bits() {
			t.Fatal(in.Left())
		}
	}
}

func TestP301DecodersThatNobodyMade(t *testing.T) {
	copied := *decoder(t, 1, 1)
	r := reader(t, "11111111")
	for name, d := range map[string]*Decoder{"nil": nil, "zero": {}, "new": new(Decoder), "copied": &copied} {
		for _, r := range []*bits.Reader{r, nil, {}} {
			if s, e := d.Next(r); s != 0 || e != api.ErrArg {
				t.Errorf("%s: %d, %d", name, s, e)
			}
		}
	}
	if r.Left() != 8 {
		t.Errorf("%d bits are left", r.Left())
	}
}

func TestP301ReadersThatNobodyMade(t *testing.T) {
	d := decoder(t, 1, 1)
	made := reader(t, "11111111")
	copied := *made
	for name, r := range map[string]*bits.Reader{"nil": nil, "zero": {}, "new": new(bits.Reader), "copied": &copied} {
		if s, e := d.Next(r); s != 0 || e != api.ErrArg {
			t.Errorf("%s: %d, %d", name, s, e)
		}
	}
	next(t, d, made, 1, api.OK, 7)
}

func TestP301DecoderKeepsNothingOfItsLengths(t *testing.T) {
	lengths, all := room()
	one, two := decoder(t, lengths...), decoder(t, 1, 2, 2)
	d, e := NewDecoder(lengths)
	if e != api.OK {
		t.Fatal(e)
	}
	unchanged(t, all)
	fill(lengths)
	for _, d := range []*Decoder{one, d} {
		r := reader(t, "10"+"0"+"110"+"111"+"1010101")
		next(t, d, r, 0, api.OK, 14)
		next(t, d, r, 1, api.OK, 13)
		next(t, two, reader(t, "10000000"), 1, api.OK, 6)
		next(t, d, r, 2, api.OK, 10)
		next(t, d, r, 3, api.OK, 7)
	}
}
