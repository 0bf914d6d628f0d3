package inflate

import (
	"math/rand"
	"slices"
	"testing"

	"gatehouse/api"
	"gatehouse/huff"
)

func TestP504Fixed(t *testing.T) {
	literals, distances := Fixed()
	if len(literals) != 288 || len(distances) != 32 {
		t.Fatal(len(literals), len(distances))
	}
	for s, l := range literals {
		want := 8
		if s >= 144 && s <= 255 {
			want = 9
		}
		if s >= 256 && s <= 279 {
			want = 7
		}
		if l != want {
			t.Errorf("literal %d: %d, not %d", s, l, want)
		}
	}
	for s, l := range distances {
		if l != 5 {
			t.Errorf("distance %d: %d", s, l)
		}
	}
}

func TestP502Dynamic(t *testing.T) {
	lengths := upTo256(2, 2, 2, 2)
	begin(t).rows(1, lengths, []int{0}).symbols(lengths, 0, 1, 2, 256).is("\x00\x01\x02")
	begin(t).rows(1, lengths, []int{0}).symbols(lengths, 256).is("")
	// Codes of 15 bits, and all that there may be of literals and distances.
	long := make([]int, 286)
	for s := range 14 {
		long['a'+s] = s + 1
	}
	long[256], long[285] = 15, 15
	far := slices.Repeat([]int{5}, 30)
	far[0], far[29] = 4, 4
	m := begin(t).rows(1, long, far).symbols(long, 'a', 'n', 'b', 285).symbols(far, 0)
	m.symbols(long, 285).symbols(far, 1).symbols(long, 256).is("anb" + bs(258) + bs(258))
	// One after the other, each with its own codes.
	two := upTo256(1, 0, 1)
	begin(t).rows(0, lengths, []int{0}).symbols(lengths, 0, 256).rows(1, two, []int{0}).symbols(two, 1, 1, 256).is("\x00\x01\x01")
}

func bs(n int) string { return string(slices.Repeat([]byte("b"), n)) }

// 286, 287 and the distances 30, 31 are the fixed codes' alone: more than 286 and 30 may not be.
func TestP502DynamicNumbers(t *testing.T) {
	for h := range 32 {
		for d := range 32 {
			m := begin(t).evenly(1, h, d)
			if h > 29 || d > 29 {
				m.fails(0, api.ErrBlock)
				refuses(t, m.Bytes()[:2], 0, api.ErrEnd) // one bit of c is missing
				refuses(t, m.Bytes()[:3], 0, api.ErrBlock)
				continue
			}
			one := upTo256(1, 1)
			literals := append(one, make([]int, h)...)
			m.row(literals...).row(make([]int, d+1)...).symbols(literals, 0, 0, 256).is("\x00\x00")
		}
	}
}

// The lengths of the symbols of lengths: how many are told, and that they are Full.
func TestP502ToldLengths(t *testing.T) {
	for _, of := range []map[int]int{{}, {0: 1}, {0: 1, 16: 2}, {0: 1, 16: 1, 17: 1}, {0: 2, 16: 2, 17: 2}, {0: 7, 18: 7}, {0: 1, 8: 2, 7: 3}} {
		for c := 3; c < 16; c++ {
			begin(t).dynamic(1, 0, 0, c, of).fails(0, api.ErrCode)
		}
	}
	// Those that are not told are 0: the symbol 1 is the 18th of the order.
	of := map[int]int{18: 1, 1: 2, 0: 2}
	for c := range 16 {
		m := begin(t).dynamic(1, 0, 0, c, of)
		if c < 14 {
			m.fails(0, api.ErrCode)
			continue
		}
		lengths := make([]int, 19)
		for s, l := range of {
			lengths[s] = l
		}
		m.symbols(lengths, 18).put(127, 7).symbols(lengths, 18).put(106, 7).symbols(lengths, 1, 1).symbols(lengths, 1)
		m.put(0, 1).put(0, 1).put(1, 1).is("\xff\xff")
	}
	// All of them are read first.
	over := begin(t).dynamic(1, 0, 0, 1, map[int]int{16: 1, 17: 1, 18: 1}).Bytes()
	refuses(t, over[:3], 0, api.ErrEnd)
	refuses(t, over, 0, api.ErrCode)
}

// Each symbol of lengths has its own place in the order: with codes that all have lengths of their own, as far as that goes.
func TestP502Order(t *testing.T) {
	long := make([]int, 257)
	for s := range 14 {
		long[3*s] = s + 1
	}
	long[44], long[256] = 15, 15
	r := rand.New(rand.NewSource(11))
	for range 100 {
		counts := make([]int, 19)
		for _, s := range r.Perm(19) {
			counts[s] = 1 + r.Intn(1<<r.Intn(20))
		}
		told, e := huff.Lengths(counts, 7)
		if e != api.OK {
			t.Fatal(e)
		}
		m := begin(t).toldBy(1, 0, 0, told).symbols(told, long...).symbols(told, 0)
		m.symbols(long, 0, 3, 21, 44, 39, 36, 256).is("\x00\x03\x15\x2c\x27\x24")
	}
}

// The runs: how long the shortest and the longest ones are.
func TestP502Runs(t *testing.T) {
	for zeros := range 8 {
		// Bytes 0 and 1 have a length, then there is none up to 256 and 257, and no distance.
		lengths := append(upTo256(2, 2, 2), 2)
		m := begin(t).evenly(1, 1, 0).row(2, 2).row(17).put(zeros, 3).zeros(254-3-zeros).row(2, 2, 0)
		m.symbols(lengths, 0, 1, 256).is("\x00\x01")
	}
	for zeros := range 128 {
		lengths := append(upTo256(2, 2, 2), 2)
		m := begin(t).evenly(1, 1, 0).row(2, 2).row(18).put(zeros, 7).zeros(254-11-zeros).row(2, 2, 0)
		m.symbols(lengths, 0, 1, 256).is("\x00\x01")
	}
	for times := range 4 {
		// Seven bytes have a length: the first by itself, 3 to 6 of them by a run, the others one by one.
		lengths := upTo256(3, 3, 3, 3, 3, 3, 3, 3)
		m := begin(t).evenly(1, 0, 0).row(3, 16).put(times, 2).row(slices.Repeat([]int{3}, 3-times)...).zeros(249).row(3, 0)
		m.symbols(lengths, 6, 0, 256).is("\x06\x00")
		// A run goes on from one of zeros.
		m = begin(t).evenly(1, 0, 0).row(17).put(0, 3).row(16).put(times, 2).row(17).put(3-times, 3)
		m.row(1).zeros(243).row(1, 0).symbols(upTo256(1, 0, 0, 0, 0, 0, 0, 0, 0, 0, 0, 0, 0, 1), 12, 256).is("\x0c")
	}
}

// The row is one: a run goes on from the literals into the distances.
func TestP502RunsGoOn(t *testing.T) {
	literals := append(upTo256(2, 2), 2, 2)
	m := begin(t).evenly(1, 2, 3).row(2).zeros(255).row(2, 16).put(3, 2).symbols(literals, 0, 257).symbols([]int{2, 2, 2, 2}, 0)
	m.symbols(literals, 256).is("\x00\x00\x00\x00")
	begin(t).evenly(1, 1, 9).row(1).zeros(255).row(1, 18).put(0, 7).symbols(upTo256(1, 1), 0, 256).is("\x00")
}

func TestP502RowsThatMayNotBe(t *testing.T) {
	begin(t).evenly(1, 0, 0).row(16).put(0, 2).fails(0, api.ErrCode) // no last one
	begin(t).evenly(1, 0, 0).row(16).put(3, 2).fails(0, api.ErrCode)
	// One or two lengths are missing, and the run has 3, or 11, at least.
	for d := range 2 {
		begin(t).evenly(1, 0, d).row(1).zeros(255).row(1, 16).put(0, 2).fails(0, api.ErrCode)
		begin(t).evenly(1, 0, d).row(1).zeros(255).row(1, 17).put(0, 3).fails(0, api.ErrCode)
		begin(t).evenly(1, 0, d).row(1).zeros(255).row(1, 18).put(0, 7).fails(0, api.ErrCode)
	}
	// Just as long as it may be.
	begin(t).evenly(1, 0, 2).row(1).zeros(255).row(1, 17).put(0, 3).symbols(upTo256(1, 1), 256).is("")
	begin(t).evenly(1, 0, 2).row(1).zeros(255).row(1, 17).put(1, 3).fails(0, api.ErrCode)
	begin(t).evenly(1, 0, 10).row(1).zeros(255).row(1, 18).put(0, 7).symbols(upTo256(1, 1), 256).is("")
	begin(t).evenly(1, 0, 10).row(1).zeros(255).row(1, 18).put(1, 7).fails(0, api.ErrCode)
}

func TestP502Enough(t *testing.T) {
	none := []int{0}
	for _, c := range []struct {
		literals, distances []int
		e                   api.Errno
	}{
		{upTo256(0, 1, 1), none, api.ErrCode}, // no end
		{upTo256(0), none, api.ErrCode},
		{upTo256(0, 1), none, api.ErrCode},
		{upTo256(1), none, api.OK}, // the end alone
		{upTo256(2), none, api.ErrCode},
		{upTo256(15), none, api.ErrCode},
		{upTo256(1, 2), none, api.ErrCode},     // too little
		{upTo256(2, 2, 2), none, api.ErrCode},  // too little
		{upTo256(1, 1, 1), none, api.ErrCode},  // too much
		{upTo256(1, 1, 15), none, api.ErrCode}, // too much
		{upTo256(1, 2, 2), none, api.OK},
		{upTo256(1, 1), none, api.OK},
		{upTo256(1, 1), []int{1}, api.OK},
		{upTo256(1, 1), []int{0, 0, 1, 0}, api.OK},
		{upTo256(1, 1), []int{0, 0, 0, 0}, api.OK},
		{upTo256(1, 1), []int{2}, api.ErrCode},
		{upTo256(1, 1), []int{0, 15}, api.ErrCode},
		{upTo256(1, 1), []int{1, 1}, api.OK},
		{upTo256(1, 1), []int{1, 2, 2}, api.OK},
		{upTo256(1, 1), []int{1, 2}, api.ErrCode},
		{upTo256(1, 1), []int{2, 2}, api.ErrCode},
		{upTo256(1, 1), []int{1, 1, 1}, api.ErrCode},
		{upTo256(1, 1), []int{1, 1, 0, 15}, api.ErrCode},
	} {
		m := begin(t).rows(1, c.literals, c.distances)
		if c.e != api.OK {
			m.fails(0, c.e)
			continue
		}
		m.symbols(c.literals, 256).is("")
	}
}

func TestP502BitsThatAreNoCode(t *testing.T) {
	// The end alone has the code 0.
	begin(t).rows(1, upTo256(1), []int{0}).put(1, 1).put(0, 32).fails(0, api.ErrCode)
	// A copy where there are no distances: no bit of it is needed.
	literals := append(upTo256(2, 1), 2)
	m := begin(t).rows(1, literals, []int{0}).symbols(literals, 0, 257)
	m.fails(api.MaxBytes, api.ErrCode)
	m.fails(1, api.ErrCode)
	begin(t).rows(1, literals, []int{0}).symbols(literals, 0, 256).is("\x00")
	// A copy where there is one: its code is 0.
	m = begin(t).rows(1, literals, []int{1}).symbols(literals, 0, 257)
	m.put(1, 1).put(0, 32).fails(api.MaxBytes, api.ErrCode)
	begin(t).rows(1, literals, []int{1}).symbols(literals, 0, 257).put(0, 1).symbols(literals, 256).is("\x00\x00\x00\x00")
	// One further away: too far, and too much.
	m = begin(t).rows(1, literals, []int{0, 1}).symbols(literals, 0, 257).put(0, 1)
	m.fails(1, api.ErrBlock)
}

// Whatever lengths are told, they are read: by codes of the best lengths, at random.
func TestP502SomeDynamic(t *testing.T) {
	r := rand.New(rand.NewSource(12))
	for range 200 {
		counts := make([]int, 257+r.Intn(30))
		for range 1 + r.Intn(300) {
			counts[r.Intn(256)] += 1 + r.Intn(1<<r.Intn(20))
		}
		counts[256] = 1
		literals, e := huff.Lengths(counts, 15)
		if e != api.OK {
			t.Fatal(e)
		}
		m, want := begin(t).rows(1, literals, make([]int, 1+r.Intn(30))), ""
		for range r.Intn(500) {
			if s := r.Intn(256); literals[s] > 0 {
				m.symbols(literals, s)
				want += string([]byte{byte(s)})
			}
		}
		m.symbols(literals, 256).is(want)
	}
}
