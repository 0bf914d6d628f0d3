package deflate

import (
	"math/rand"
	"slices"
	"testing"
)

func someRuns(row []int) [][3]int {
	var l [][3]int
	for r := range runs(row) {
		l = append(l, [3]int{r.symbol, r.extra, r.width})
	}
	return l
}

// many: how often each number stands there: 0 5 times, 1 twice for 0 5 1 2.
func many(pairs ...int) []int {
	var row []int
	for k := 0; k < len(pairs); k += 2 {
		row = append(row, slices.Repeat(pairs[k:k+1], pairs[k+1])...)
	}
	return row
}

func TestP602Runs(t *testing.T) {
	for _, c := range []struct {
		row  []int
		want [][3]int
	}{
		{nil, nil},
		{many(0, 1), [][3]int{{0, 0, 0}}},
		{many(0, 2), [][3]int{{0, 0, 0}, {0, 0, 0}}},
		{many(0, 3), [][3]int{{17, 0, 3}}},
		{many(0, 10), [][3]int{{17, 7, 3}}},
		{many(0, 11), [][3]int{{18, 0, 7}}},
		{many(0, 138), [][3]int{{18, 127, 7}}},
		{many(0, 139), [][3]int{{18, 127, 7}, {0, 0, 0}}},
		{many(0, 141), [][3]int{{18, 127, 7}, {17, 0, 3}}},
		{many(0, 149), [][3]int{{18, 127, 7}, {18, 0, 7}}},
		{many(0, 278), [][3]int{{18, 127, 7}, {18, 127, 7}, {0, 0, 0}, {0, 0, 0}}},
		{many(5, 1), [][3]int{{5, 0, 0}}},
		{many(5, 3), [][3]int{{5, 0, 0}, {5, 0, 0}, {5, 0, 0}}},
		{many(5, 4), [][3]int{{5, 0, 0}, {16, 0, 2}}},
		{many(5, 7), [][3]int{{5, 0, 0}, {16, 3, 2}}},
		{many(5, 8), [][3]int{{5, 0, 0}, {16, 3, 2}, {5, 0, 0}}},
		{many(5, 9), [][3]int{{5, 0, 0}, {16, 3, 2}, {5, 0, 0}, {5, 0, 0}}},
		{many(5, 10), [][3]int{{5, 0, 0}, {16, 3, 2}, {16, 0, 2}}},
		{many(15, 13), [][3]int{{15, 0, 0}, {16, 3, 2}, {16, 3, 2}}},
		{many(0, 4, 5, 3), [][3]int{{17, 1, 3}, {5, 0, 0}, {5, 0, 0}, {5, 0, 0}}},
		{many(5, 1, 0, 3, 5, 4), [][3]int{{5, 0, 0}, {17, 0, 3}, {5, 0, 0}, {16, 0, 2}}},
		{many(4, 4, 5, 4), [][3]int{{4, 0, 0}, {16, 0, 2}, {5, 0, 0}, {16, 0, 2}}},
	} {
		if l := someRuns(c.row); !slices.Equal(l, c.want) {
			t.Errorf("%d: %d, not %d", c.row, l, c.want)
		}
	}
	r := rand.New(rand.NewSource(31))
	for range 2000 {
		var row []int
		for range r.Intn(12) {
			row = append(row, many(r.Intn(3)*r.Intn(8), 1+r.Intn(1<<r.Intn(9)))...)
		}
		if l, want := someRuns(row), runsOf(row); !slices.Equal(l, want) {
			t.Fatalf("%d: %d, not %d", row, l, want)
		}
	}
}

// Whoever ranges over runs may leave.
func TestP602RunsLeft(t *testing.T) {
	n := 0
	for range runs(many(1, 2, 2, 2, 3, 2)) {
		if n++; n == 3 {
			break
		}
	}
	if n != 3 {
		t.Error(n)
	}
}

func TestP602JustOneSymbolOfRuns(t *testing.T) {
	for s := range 19 {
		counts := make([]int, 19)
		counts[s] = 4
		want := make([]int, 19)
		want[s], want[0] = 1, 1
		if s == 0 {
			want[1] = 1
		}
		if l := bestLengths(atLeastTwo(counts), 7); !slices.Equal(l, want) {
			t.Errorf("%d alone: %d", s, l)
		}
	}
	for _, counts := range [][]int{{1, 2, 0}, {0, 2, 1}, {3, 3, 3}} {
		if l := atLeastTwo(slices.Clone(counts)); !slices.Equal(l, counts) {
			t.Errorf("%d: %d", counts, l)
		}
	}
	if l := lengthsOfRuns([]int{5, 5, 5}); l[5] != 1 || l[0] != 1 {
		t.Error(l)
	}
}

// Symbols of runs that would have codes of more than 7 bits, were there no limit.
func TestP602LongestOfRuns(t *testing.T) {
	var row []int
	counts := make([]int, 19)
	for k, n, next := 1, 1, 1; k < 10; k, n, next = k+1, next, n+next {
		counts[k] = n
		row = append(row, many(k, n)...)
	}
	// None of them stands three times behind itself.
	r := rand.New(rand.NewSource(33))
	for slices.ContainsFunc(someRuns(row), func(x [3]int) bool { return x[0] == 16 }) {
		r.Shuffle(len(row), func(a, b int) { row[a], row[b] = row[b], row[a] })
	}
	if l := lengthsOfRuns(row); slices.Max(l) != 7 || !slices.Equal(l, lengthsOf(counts, 7)) {
		t.Error(l)
	}
}

func TestP602Told(t *testing.T) {
	for _, c := range []struct{ lengths, want []int }{
		{[]int{0, 0, 0}, []int{0}},
		{[]int{0, 2, 0}, []int{0, 2}},
		{[]int{0, 2, 3}, []int{0, 2, 3}},
		{[]int{0}, []int{0}},
	} {
		if l := told(c.lengths, 1); !slices.Equal(l, c.want) {
			t.Errorf("%d: %d, not %d", c.lengths, l, c.want)
		}
	}
	if l := told(make([]int, 19), 4); len(l) != 4 {
		t.Error(l)
	}
}

// The farthest copies and the nearest ones, the longest and the shortest: what is told of lengths ends at them.
func TestP602Copies(t *testing.T) {
	r := rand.New(rand.NewSource(32))
	far := make([]byte, 33100)
	for k := range far {
		far[k] = byte(r.Intn(256))
	}
	for k, dist := range []int{1, 2, 3, 4, 5, 6, 7, 1000, 16384, 16385, 24576, 24577, 32767, 32768, 32769} {
		length := []int{3, 10, 11, 18, 100, 257, 258}[k%7]
		text := slices.Clone(far)
		for k := len(text) - length; k < len(text); k++ {
			text[k] = text[k-dist]
		}
		compare(t, text, 9)
		compare(t, text[len(text)-min(dist, 300)-length:], 9)
	}
	for n := 1; n < 600; n++ {
		compare(t, fewLetters(n), 1+n%9)
	}
}

// fewLetters: few bytes that come again and again, in other orders.
func fewLetters(n int) []byte {
	r := rand.New(rand.NewSource(int64(n)))
	text := someText(r, n)
	for k := range text {
		text[k] &= 7
	}
	return text
}
