package huff

import (
	"bytes"
	"math"
	"math/rand"
	"slices"
	"testing"

	"gatehouse/api"
	"gatehouse/bits"
)

// padded: with as many lengths 0 behind them as make n.
func padded(n int, lengths ...int) []int {
	return append(slices.Clone(lengths), make([]int, n-len(lengths))...)
}

func repeat(n, times int) []int { return slices.Repeat([]int{n}, times) }

// may: lengths that may be, and whether they are Full.
func may() map[string]struct {
	lengths, codes []int
	full           bool
} {
	ladder := []int{1, 2, 3, 4, 5, 6, 7, 8, 9, 10, 11, 12, 13, 14, 15, 15}
	rungs := []int{0, 2, 6, 14, 30, 62, 126, 254, 510, 1022, 2046, 4094, 8190, 16382, 32766, 32767}
	return map[string]struct {
		lengths, codes []int
		full           bool
	}{
		"the chapter's":    {[]int{3, 3, 3, 3, 3, 2, 4, 4}, []int{2, 3, 4, 5, 6, 0, 14, 15}, true},
		"three":            {[]int{1, 2, 2}, []int{0, 2, 3}, true},
		"turned":           {[]int{2, 2, 1}, []int{2, 3, 0}, true},
		"two":              {[]int{1, 1}, []int{0, 1}, true},
		"none":             {nil, nil, false},
		"empty":            {[]int{}, nil, false},
		"zeros":            {[]int{0, 0}, []int{0, 0}, false},
		"one":              {[]int{1}, []int{0}, false},
		"the longest":      {[]int{15}, []int{0}, false},
		"with gaps":        {[]int{0, 2, 0, 2, 0}, []int{0, 0, 0, 1, 0}, false},
		"a jump":           {[]int{5, 2, 2}, []int{16, 0, 1}, false},
		"all but one bit":  {ladder[:15], rungs[:15], false},
		"a ladder":         {ladder, rungs, true},
		"down":             {[]int{3, 3, 2, 1}, []int{6, 7, 2, 0}, true},
		"as many as fit":   {padded(320, 1, 1), padded(320, 0, 1), true},
		"many zeros":       {padded(320), padded(320), false},
		"half of the rest": {[]int{2, 2, 1, 0}, []int{2, 3, 0, 0}, true},
	}
}

// mayNot: lengths that may not be.
func mayNot() map[string][]int {
	return map[string][]int{
		"too heavy":         {1, 1, 1},
		"too heavy by one":  {1, 1, 15},
		"a long one more":   append(repeat(8, 256), 15),
		"below 0":           {-1},
		"below 0, too":      {1, -1, 2},
		"too long":          {16},
		"too long at last":  {1, 2, 16},
		"63":                {63},
		"64":                {64},
		"the least":         {math.MinInt},
		"the greatest":      {math.MaxInt},
		"too many":          make([]int, 321),
		"too many, weighed": padded(321, 1, 1),
		"far too many":      make([]int, 1<<16),
		"of 1, very many":   repeat(1, 320),
	}
}

func TestP302Codes(t *testing.T) {
	for name, c := range may() {
		if codes, e := Codes(c.lengths); !slices.Equal(codes, c.codes) || e != api.OK {
			t.Errorf("%s: Codes(%v): %v, %d", name, c.lengths, codes, e)
		}
		if Full(c.lengths) != c.full {
			t.Errorf("%s: Full(%v): %v", name, c.lengths, !c.full)
		}
	}
	if codes, e := Codes(repeat(9, 320)); len(codes) != 320 || codes[0] != 0 || codes[319] != 319 || e != api.OK {
		t.Error(codes, e)
	}
	if !Full(append(repeat(9, 128), repeat(8, 192)...)) {
		t.Error("320 that leave nothing")
	}
}

func TestP302LengthsThatMayNotBe(t *testing.T) {
	for name, l := range mayNot() {
		if codes, e := Codes(l); len(codes) != 0 || e != api.ErrCode {
			t.Errorf("%s: Codes: %v, %d", name, codes, e)
		}
		if Full(l) {
			t.Errorf("%s: Full", name)
		}
		if d, e := NewDecoder(l); d != nil || e != api.ErrCode {
			t.Errorf("%s: NewDecoder: %v, %d", name, d, e)
		}
	}
}

// some: lengths that may be, of up to most symbols; many of them leave nothing.
func some(r *rand.Rand, most int) []int {
	n := 1 + r.Intn(most)
	lengths := make([]int, n)
	left := whole
	for left > 0 {
		l := 1 + r.Intn(15)
		if s := r.Intn(n); lengths[s] == 0 && left >= whole>>l {
			lengths[s] = l
			left -= whole >> l
		} else if r.Intn(n) == 0 {
			break
		}
	}
	return lengths
}

// counted: codes as RFC 1951, 3.2.2 makes them: by how many there are of each length.
func counted(lengths []int) []int {
	var count, next [17]int
	for _, l := range lengths {
		count[l]++
	}
	count[0] = 0
	for l := 1; l < 16; l++ {
		next[l] = (next[l-1] + count[l-1]) << 1
	}
	codes := make([]int, len(lengths))
	for s, l := range lengths {
		if l != 0 {
			codes[s] = next[l]
			next[l]++
		}
	}
	return codes
}

func TestP302CodesOfSome(t *testing.T) {
	r := rand.New(rand.NewSource(1))
	full := 0
	for range 2000 {
		lengths := some(r, 320)
		weight := 0
		for _, l := range lengths {
			weight += 1 << (15 - l) * min(l, 1)
		}
		if codes, e := Codes(lengths); !slices.Equal(codes, counted(lengths)) || e != api.OK {
			t.Fatalf("Codes(%v): %v, %d", lengths, codes, e)
		}
		if Full(lengths) != (weight == 1<<15) {
			t.Fatalf("Full(%v): %v", lengths, !Full(lengths))
		}
		if Full(lengths) {
			full++
		}
	}
	if full < 100 {
		t.Errorf("only %d leave nothing", full)
	}
}

func TestP308NoCodeBeginsAnother(t *testing.T) {
	r := rand.New(rand.NewSource(2))
	for range 300 {
		lengths := some(r, 60)
		codes, e := Codes(lengths)
		if e != api.OK {
			t.Fatal(e)
		}
		for a, l := range lengths {
			if codes[a]>>l != 0 {
				t.Fatalf("%d of %v is too long: %d", a, lengths, codes[a])
			}
			for b, m := range lengths {
				if a != b && 0 < l && l <= m && codes[b]>>(m-l) == codes[a] {
					t.Fatalf("%v: %d begins %d", lengths, a, b)
				}
			}
		}
	}
}

func TestP305Put(t *testing.T) {
	w := bits.NewWriter()
	codes := []int{1, 6, 0, 0x7fff, 1, 0x1234}
	lengths := []int{1, 3, 2, 15, 4, 13}
	want := []struct{ bits, n int }{{1, 1}, {4, 7}, {6, 7}, {21, 0x1fffc7}, {25, 0x11fffc7}}
	for s, c := range want {
		if e := Put(w, codes, lengths, s); e != api.OK || w.Bits() != c.bits {
			t.Errorf("Put of %d: %d, %d bits", s, e, w.Bits())
		}
		if n, _ := bits.NewReader(w.Bytes()).Take(c.bits); n != c.n {
			t.Errorf("Put of %d: %b, not %b", s, n, c.n)
		}
	}
	one := bits.NewWriter()
	if e := Put(one, codes, lengths, 5); e != api.OK || one.Bits() != 13 || !bytes.Equal(one.Bytes(), []byte{0x89, 0x05}) {
		t.Error(e, one.Bits(), one.Bytes())
	}
}

func TestP305PutOfWrongThings(t *testing.T) {
	w := bits.NewWriter()
	for name, c := range map[string]struct {
		codes, lengths []int
		symbol         int
	}{
		"below 0":               {[]int{0, 1}, []int{1, 1}, -1},
		"past the end":          {[]int{0, 1}, []int{1, 1}, 2},
		"the least":             {[]int{0, 1}, []int{1, 1}, math.MinInt},
		"the greatest":          {[]int{0, 1}, []int{1, 1}, math.MaxInt},
		"of no lists":           {nil, nil, 0},
		"without a code":        {nil, []int{1, 1}, 0},
		"without a length":      {[]int{0, 1}, nil, 0},
		"past the codes":        {[]int{0}, []int{1, 1}, 1},
		"past the lengths":      {[]int{0, 1}, []int{1}, 1},
		"of length 0":           {[]int{0}, []int{0}, 0},
		"of length 0, code 1":   {[]int{1}, []int{0}, 0},
		"of length 16":          {[]int{0}, []int{16}, 0},
		"of length 32":          {[]int{0}, []int{32}, 0},
		"of length -1":          {[]int{0}, []int{-1}, 0},
		"of the least length":   {[]int{0}, []int{math.MinInt}, 0},
		"of the greatest":       {[]int{0}, []int{math.MaxInt}, 0},
		"code 2 of length 1":    {[]int{2}, []int{1}, 0},
		"code 8 of length 3":    {[]int{8}, []int{3}, 0},
		"2^15 of length 15":     {[]int{1 << 15}, []int{15}, 0},
		"code -1":               {[]int{-1}, []int{1}, 0},
		"code -1 of length 15":  {[]int{-1}, []int{15}, 0},
		"the least code":        {[]int{math.MinInt}, []int{15}, 0},
		"the greatest code":     {[]int{math.MaxInt}, []int{15}, 0},
		"2^32 of length 8":      {[]int{1 << 32}, []int{8}, 0},
		"2^63 - 2^15, of 15":    {[]int{math.MaxInt - 1<<15 + 1}, []int{15}, 0},
		"one that is not wrong": {[]int{1}, []int{1}, 1},
	} {
		for _, w := range []*bits.Writer{w, nil, {}} {
			if e := Put(w, c.codes, c.lengths, c.symbol); e != api.ErrArg {
				t.Errorf("%s: %d", name, e)
			}
		}
	}
	if w.Bits() != 0 {
		t.Errorf("%d bits", w.Bits())
	}
	for l := 1; l < 16; l++ {
		w := bits.NewWriter()
		if e := Put(w, []int{1<<l - 1}, []int{l}, 0); e != api.OK || w.Bits() != l {
			t.Errorf("the greatest code of %d bits: %d", l, e)
		}
		if e := Put(w, []int{1 << l}, []int{l}, 0); e != api.ErrArg || w.Bits() != l {
			t.Errorf("one above it: %d", e)
		}
	}
	// Only what stands at the symbol is looked at.
	if e := Put(w, []int{-1, 1, 9}, []int{99, 1, -5, 0}, 1); e != api.OK || !bytes.Equal(w.Bytes(), []byte{1}) {
		t.Error(e)
	}
}

func TestP305PutWithoutRoom(t *testing.T) {
	w := bits.NewWriter()
	if e := w.Raw(make([]byte, api.MaxBytes-1)); e != api.OK {
		t.Fatal(e)
	}
	w.Put(1, 4)
	before := w.Bytes()
	if e := Put(w, []int{0}, []int{5}, 0); e != api.ErrSize || w.Bits() != 8*api.MaxBytes-4 || !bytes.Equal(w.Bytes(), before) {
		t.Error(e, w.Bits())
	}
	if e := Put(w, []int{32}, []int{5}, 0); e != api.ErrArg {
		t.Error(e)
	}
	if e := Put(w, []int{8}, []int{4}, 0); e != api.OK || w.Bits() != 8*api.MaxBytes || w.Bytes()[api.MaxBytes-1] != 1+16 {
		t.Error(e, w.Bits())
	}
	if e := Put(w, []int{0}, []int{1}, 0); e != api.ErrSize {
		t.Error(e)
	}
}

func TestP301WritersThatNobodyMade(t *testing.T) {
	made := bits.NewWriter()
	made.Put(1, 1)
	copied := *made
	for name, w := range map[string]*bits.Writer{"nil": nil, "zero": {}, "new": new(bits.Writer), "copied": &copied} {
		if e := Put(w, []int{0, 1}, []int{1, 1}, 1); e != api.ErrArg {
			t.Errorf("%s: %d", name, e)
		}
	}
	if made.Bits() != 1 {
		t.Error(made.Bits())
	}
}

// room: lengths, with others in the room behind them.
func room() ([]int, []int) {
	all := []int{2, 1, 3, 3, 7, 8, 9}
	return all[:4], all
}

func unchanged(t *testing.T, all []int) {
	t.Helper()
	if !slices.Equal(all, []int{2, 1, 3, 3, 7, 8, 9}) {
		t.Errorf("what was handed in is changed: %v", all)
	}
}

// fill overwrites a list, and the room behind it.
func fill(l []int) {
	l = l[:cap(l)]
	for i := range l {
		l[i] = -77
	}
}

func TestP301CodesShareNothing(t *testing.T) {
	lengths, all := room()
	one, e := Codes(lengths)
	two, f := Codes(lengths)
	if e != api.OK || f != api.OK {
		t.Fatal(e, f)
	}
	fill(one)
	unchanged(t, all)
	if want := []int{2, 0, 6, 7}; !slices.Equal(two, want) {
		t.Errorf("two answers share: %v", two)
	}
	if three, _ := Codes(lengths); !slices.Equal(three, two) {
		t.Errorf("answers change: %v", three)
	}
	Full(lengths)
	w := bits.NewWriter()
	for s := range lengths {
		if e := Put(w, two, lengths, s); e != api.OK {
			t.Error(s, e)
		}
	}
	unchanged(t, all)
	if !slices.Equal(two, []int{2, 0, 6, 7}) {
		t.Errorf("Put changes the codes: %v", two)
	}
}
