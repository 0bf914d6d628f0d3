package huff

import (
	"math"
	"math/rand"
	"slices"
	"testing"

	"gatehouse/api"
)

const great = 1 << 40

func TestP303Lengths(t *testing.T) {
	for _, c := range []struct {
		counts []int
		limit  int
		want   []int
	}{
		{[]int{1, 1, 2, 4}, 15, []int{3, 3, 2, 1}},
		{[]int{1, 1, 2, 4}, 3, []int{3, 3, 2, 1}},
		{[]int{1, 1, 2, 4}, 2, []int{2, 2, 2, 2}},
		{[]int{4, 2, 1, 1}, 15, []int{1, 2, 3, 3}},
		{[]int{0, 5}, 15, []int{0, 1}},
		{[]int{5}, 1, []int{1}},
		{[]int{0, 0, great, 0}, 7, []int{0, 0, 1, 0}},
		{nil, 1, nil},
		{[]int{}, 15, nil},
		{[]int{0, 0, 0}, 1, []int{0, 0, 0}},
		{[]int{3, 9}, 1, []int{1, 1}},
		{[]int{0, great, 0, 1}, 1, []int{0, 1, 0, 1}},
		{[]int{great, great, great}, 15, []int{2, 2, 1}},
		{[]int{1, 1, 1}, 2, []int{2, 2, 1}}, // the last one of those of one count is the third coin
		{[]int{7, 7, 7, 7, 7}, 15, []int{3, 3, 2, 2, 2}},
		{[]int{1, 1, 1, 1, 2}, 15, []int{3, 3, 2, 2, 2}},
		{[]int{2, 1, 1}, 15, []int{1, 2, 2}}, // a coin ahead of a pair of the same count
		{[]int{2, 1, 1, 2}, 15, []int{2, 2, 2, 2}},
		{[]int{1, 1, 2, 3, 5, 8, 13}, 15, []int{6, 6, 5, 4, 3, 2, 1}},
		{[]int{1, 1, 2, 3, 5, 8, 13}, 4, []int{4, 4, 3, 3, 3, 2, 2}},
		{[]int{1, 1, 2, 3, 5, 8, 13}, 3, []int{3, 3, 3, 3, 3, 3, 2}},
	} {
		if l, e := Lengths(c.counts, c.limit); !slices.Equal(l, c.want) || e != api.OK {
			t.Errorf("Lengths(%v, %d): %v, %d, not %v", c.counts, c.limit, l, e, c.want)
		}
	}
}

func TestP303WrongThings(t *testing.T) {
	for _, limit := range []int{0, -1, 16, 17, 64, math.MinInt, math.MaxInt} {
		for _, counts := range [][]int{nil, {0}, {5}, {1, 1}, {1, 2, 3}} {
			if l, e := Lengths(counts, limit); len(l) != 0 || e != api.ErrArg {
				t.Errorf("Lengths(%v, %d): %v, %d", counts, limit, l, e)
			}
		}
	}
	for limit := 1; limit < 16; limit++ {
		for name, counts := range map[string][]int{
			"below 0":         {-1},
			"below 0 at last": {1, 2, -1},
			"the least":       {math.MinInt, 1},
			"too great":       {great + 1},
			"the greatest":    {1, math.MaxInt},
			"too many":        repeat(1, 321),
			"too many of 0":   repeat(0, 321),
			"far too many":    repeat(0, 1<<16),
		} {
			if l, e := Lengths(counts, limit); len(l) != 0 || e != api.ErrArg {
				t.Errorf("%s, limit %d: %v, %d", name, limit, l, e)
			}
		}
	}
}

// As many as a limit has codes for, and one more.
func TestP303AsManyAsTheLimitHas(t *testing.T) {
	for limit := 1; limit < 9; limit++ {
		counts := padded(320, repeat(3, 1<<limit)...)
		if l, e := Lengths(counts, limit); !slices.Equal(l, padded(320, repeat(limit, 1<<limit)...)) || e != api.OK {
			t.Errorf("limit %d: %v, %d", limit, l, e)
		}
		counts[319] = 1
		if l, e := Lengths(counts, limit); len(l) != 0 || e != api.ErrArg {
			t.Errorf("limit %d, one more: %v, %d", limit, l, e)
		}
	}
	if l, e := Lengths(repeat(great, 320), 8); len(l) != 0 || e != api.ErrArg {
		t.Error(l, e)
	}
	if l, e := Lengths(repeat(great, 320), 9); !slices.Equal(l, append(repeat(9, 128), repeat(8, 192)...)) || e != api.OK {
		t.Error(l, e)
	}
}

// chest: a coin, or two of them.
type chest struct {
	count    int
	coin     bool
	symbol   int
	one, two *chest
}

func (c *chest) add(to []int) {
	if c.coin {
		to[c.symbol]++
		return
	}
	c.one.add(to)
	c.two.add(to)
}

// packed: lengths by packages, each row sorted anew.
func packed(counts []int, limit int) []int {
	var coins []*chest
	for s, c := range counts {
		if c != 0 {
			coins = append(coins, &chest{count: c, coin: true, symbol: s})
		}
	}
	by := func(a, b *chest) int { return a.count - b.count }
	slices.SortStableFunc(coins, by)
	row := coins
	for n := 1; n < limit; n++ {
		next := slices.Clone(coins)
		for k := 0; k+1 < len(row); k += 2 {
			next = append(next, &chest{count: row[k].count + row[k+1].count, one: row[k], two: row[k+1]})
		}
		slices.SortStableFunc(next, by)
		row = next
	}
	lengths := make([]int, len(counts))
	if len(coins) == 1 {
		lengths[coins[0].symbol] = 1
	}
	for k := 0; k < 2*len(coins)-2; k++ {
		row[k].add(lengths)
	}
	return lengths
}

// drawn: counts, many of them alike or 0, or far apart.
func drawn(r *rand.Rand, n int) []int {
	counts := make([]int, n)
	kind := r.Intn(4)
	for s := range counts {
		switch kind {
		case 0:
			counts[s] = r.Intn(4)
		case 1:
			counts[s] = r.Intn(1000)
		case 2:
			counts[s] = 1 << r.Intn(41)
		default:
			counts[s] = r.Intn(2) * r.Intn(great+1)
		}
	}
	return counts
}

func codesOf(counts []int) int {
	return len(counts) - len(slices.DeleteFunc(slices.Clone(counts), func(c int) bool { return c != 0 }))
}

func TestP303LengthsOfSome(t *testing.T) {
	r := rand.New(rand.NewSource(1))
	for range 1500 {
		counts, limit := drawn(r, r.Intn(321)), 1+r.Intn(15)
		if r.Intn(2) == 0 {
			counts = counts[:min(len(counts), 1+r.Intn(12))]
		}
		l, e := Lengths(counts, limit)
		if codesOf(counts) > 1<<limit {
			if len(l) != 0 || e != api.ErrArg {
				t.Fatalf("Lengths(%v, %d): %v, %d", counts, limit, l, e)
			}
		} else if want := packed(counts, limit); !slices.Equal(l, want) || e != api.OK {
			t.Fatalf("Lengths(%v, %d): %v, %d, not %v", counts, limit, l, e, want)
		}
	}
}

// least: the smallest sum of count times length that lengths of a weight of at most left have.
func least(counts []int, limit, left int) int {
	if len(counts) == 0 {
		return 0
	}
	if counts[0] == 0 {
		return least(counts[1:], limit, left)
	}
	best := math.MaxInt
	for l := 1; l <= limit; l++ {
		if w := 1 << (15 - l); w <= left {
			if rest := least(counts[1:], limit, left-w); rest < math.MaxInt {
				best = min(best, counts[0]*l+rest)
			}
		}
	}
	return best
}

func cost(counts, lengths []int) int {
	sum := 0
	for s, c := range counts {
		sum += c * lengths[s]
	}
	return sum
}

func TestP307TheBest(t *testing.T) {
	r := rand.New(rand.NewSource(2))
	for range 1500 {
		counts, limit := drawn(r, r.Intn(7)), 1+r.Intn(6)
		if codesOf(counts) > 1<<limit {
			continue
		}
		l, e := Lengths(counts, limit)
		if e != api.OK || cost(counts, l) != least(counts, limit, 1<<15) {
			t.Fatalf("Lengths(%v, %d): %v, %d: %d, not %d", counts, limit, l, e, cost(counts, l), least(counts, limit, 1<<15))
		}
	}
}

// joined: the sum that Huffman's way has: the two smallest ones become one, again and again.
func joined(counts []int) int {
	l := slices.DeleteFunc(slices.Clone(counts), func(c int) bool { return c == 0 })
	sum := 0
	for len(l) > 1 {
		slices.Sort(l)
		l[1] += l[0]
		sum += l[1]
		l = l[1:]
	}
	return sum
}

func TestP307TheBestOfMany(t *testing.T) {
	r := rand.New(rand.NewSource(3))
	for range 300 {
		counts := make([]int, 2+r.Intn(319))
		for s := range counts {
			counts[s] = r.Intn(60) // too few for a code of 16 bits, of the best ones
		}
		counts[0], counts[1] = 1, 1
		l, e := Lengths(counts, 15)
		if e != api.OK || cost(counts, l) != joined(counts) {
			t.Fatalf("Lengths(%v, 15): %v, %d", counts, l, e)
		}
	}
}

func TestP307Full(t *testing.T) {
	r := rand.New(rand.NewSource(4))
	for range 1500 {
		counts, limit := drawn(r, r.Intn(321)), 1+r.Intn(15)
		k := codesOf(counts)
		if k > 1<<limit {
			continue
		}
		l, e := Lengths(counts, limit)
		if e != api.OK || len(l) != len(counts) || Full(l) != (k > 1) {
			t.Fatalf("Lengths(%v, %d): %v, %d", counts, limit, l, e)
		}
		for s, c := range counts {
			if l[s] > limit || l[s] < 0 || (l[s] == 0) != (c == 0) {
				t.Fatalf("Lengths(%v, %d): %v", counts, limit, l)
			}
		}
	}
}

func TestP301LengthsShareNothing(t *testing.T) {
	counts, all := room()
	one, e := Lengths(counts, 15)
	two, f := Lengths(counts, 15)
	if e != api.OK || f != api.OK {
		t.Fatal(e, f)
	}
	fill(one)
	unchanged(t, all)
	if !slices.Equal(two, packed(counts, 15)) {
		t.Errorf("two answers share: %v", two)
	}
	Lengths(counts, 1)
	unchanged(t, all)
}
