package ascii

import (
	"bytes"
	"math"
	"math/rand"
	"testing"

	"gatehouse/api"
)

func newQueue(t *testing.T, limit int, put string) *Queue {
	t.Helper()
	q, e := NewQueue(limit)
	if q == nil || e != api.OK {
		t.Fatalf("NewQueue(%d): %v, %d", limit, q, e)
	}
	if e := q.Put([]byte(put)); e != api.OK {
		t.Fatalf("Put(%q): %d", put, e)
	}
	return q
}

func TestP105NewQueue(t *testing.T) {
	for _, limit := range []int{0, -1, math.MinInt, api.MaxBytes + 1, math.MaxInt} {
		if q, e := NewQueue(limit); q != nil || e != api.ErrArg {
			t.Errorf("NewQueue(%d): %v, %d", limit, q, e)
		}
	}
	for _, limit := range []int{1, 2, api.MaxBytes - 1, api.MaxBytes} {
		q := newQueue(t, limit, "")
		if l, ok := q.Line(); q.Len() != 0 || len(q.Take(1)) != 0 || len(q.Peek(1)) != 0 || len(l) != 0 || ok {
			t.Errorf("NewQueue(%d) is not empty", limit)
		}
	}
}

func TestP105Put(t *testing.T) {
	for _, limit := range []int{1, 10, api.MaxBytes} {
		full := bytes.Repeat([]byte("x"), limit)
		q := newQueue(t, limit, "")
		if e := q.Put(append([]byte("y"), full...)); e != api.ErrSize || q.Len() != 0 {
			t.Errorf("one more than %d: %d, %d", limit, e, q.Len())
		}
		if e := q.Put(full); e != api.OK || q.Len() != limit {
			t.Errorf("just %d: %d, %d", limit, e, q.Len())
		}
		if e := q.Put([]byte("y")); e != api.ErrSize || !bytes.Equal(q.Peek(limit), full) {
			t.Errorf("one behind %d: %d", limit, e)
		}
		if q.Put(nil) != api.OK || q.Put([]byte{}) != api.OK || q.Len() != limit {
			t.Error("nothing fits into a full queue, too")
		}
		if q.Take(1); q.Put([]byte("yz")) != api.ErrSize || q.Put([]byte("y")) != api.OK || q.Len() != limit {
			t.Error("what was taken makes room")
		}
	}
}

func TestP105TakeAndPeek(t *testing.T) {
	q := newQueue(t, 10, "abcdef")
	for _, n := range []int{0, -1, math.MinInt} {
		if len(q.Peek(n)) != 0 || len(q.Take(n)) != 0 || q.Len() != 6 {
			t.Errorf("none of %d", n)
		}
	}
	if string(q.Peek(2)) != "ab" || string(q.Peek(6)) != "abcdef" || string(q.Peek(7)) != "abcdef" || string(q.Peek(math.MaxInt)) != "abcdef" || q.Len() != 6 {
		t.Error("Peek")
	}
	if string(q.Take(2)) != "ab" || q.Len() != 4 || string(q.Peek(1)) != "c" || string(q.Take(1)) != "c" || string(q.Peek(9)) != "def" {
		t.Error("Take")
	}
	if string(q.Take(math.MaxInt)) != "def" || q.Len() != 0 || len(q.Take(1)) != 0 || len(q.Peek(1)) != 0 {
		t.Error("Take of more than there are")
	}
}

func TestP105Line(t *testing.T) {
	for _, c := range []struct {
		put   string
		lines []string
		rest  string
	}{
		{"ab\r\nc", []string{"ab"}, "c"},
		{"ab\nc\n", []string{"ab", "c"}, ""},
		{"", nil, ""},
		{"ab", nil, "ab"},
		{"ab\r", nil, "ab\r"},
		{"\n", []string{""}, ""},
		{"\r\n", []string{""}, ""},
		{"\n\n\r\nx", []string{"", "", ""}, "x"},
		{"ab\r\r\n", []string{"ab\r"}, ""},
		{"\r\r\n", []string{"\r"}, ""},
		{"a\rb\n", []string{"a\rb"}, ""},
		{"\rab\n", []string{"\rab"}, ""},
		{" a \t\r\n", []string{" a \t"}, ""},
		{"ab\n\r", []string{"ab"}, "\r"},
	} {
		q := newQueue(t, 100, c.put)
		for _, want := range c.lines {
			if l, ok := q.Line(); string(l) != want || !ok {
				t.Errorf("%q: %q, %v, not %q", c.put, l, ok, want)
			}
		}
		if l, ok := q.Line(); len(l) != 0 || ok || q.Len() != len(c.rest) || string(q.Peek(100)) != c.rest {
			t.Errorf("%q: behind its lines %q, %v, %q", c.put, l, ok, q.Peek(100))
		}
	}
}

func TestP105LineInPieces(t *testing.T) {
	q := newQueue(t, 100, "")
	for _, b := range []byte("abcd\r") {
		q.Put([]byte{b})
		if l, ok := q.Line(); len(l) != 0 || ok {
			t.Fatalf("%q, %v", l, ok)
		}
	}
	if string(q.Take(2)) != "ab" {
		t.Error("Take between")
	}
	q.Put([]byte("\ne\nf"))
	for _, want := range []string{"cd", "e"} {
		if l, ok := q.Line(); string(l) != want || !ok {
			t.Errorf("%q, %v, not %q", l, ok, want)
		}
	}
	if _, ok := q.Line(); ok || string(q.Take(9)) != "f" {
		t.Error("no line any more")
	}
	q.Put([]byte("g\n"))
	if l, ok := q.Line(); string(l) != "g" || !ok {
		t.Errorf("%q, %v, in an emptied queue", l, ok)
	}
}

// The longest line, byte by byte: what was searched stays searched, which takes some hundredth of the time.
func TestP105LongLineByteByByte(t *testing.T) {
	q := newQueue(t, api.MaxBytes, "")
	for range api.MaxBytes - 1 {
		q.Put([]byte("x"))
		if _, ok := q.Line(); ok {
			t.Fatal("a line without an end")
		}
	}
	q.Put([]byte("\n"))
	if l, ok := q.Line(); len(l) != api.MaxBytes-1 || !ok || q.Len() != 0 {
		t.Error(len(l), ok)
	}
}

func TestP105QueuesThatNobodyMade(t *testing.T) {
	made := newQueue(t, 10, "a\n")
	copied := *made
	for name, q := range map[string]*Queue{"nil": nil, "zero": {}, "new": new(Queue), "copied": &copied} {
		if e := q.Put([]byte("b")); e != api.ErrArg {
			t.Errorf("%s: Put: %d", name, e)
		}
		if e := q.Put(nil); e != api.ErrArg {
			t.Errorf("%s: Put of nothing: %d", name, e)
		}
		l, ok := q.Line()
		if len(q.Take(1)) != 0 || len(q.Peek(1)) != 0 || len(l) != 0 || ok || q.Len() != 0 {
			t.Errorf("%s: something is in it", name)
		}
	}
	if string(made.Take(9)) != "a\n" {
		t.Error("the one that was copied changed")
	}
}

// fill overwrites a list, and the room behind it.
func fill(b []byte) {
	b = b[:cap(b)]
	for i := range b {
		b[i] = '#'
	}
}

func TestP101QueueSharesNothing(t *testing.T) {
	room := []byte("abc\r\ndefgh")
	given := room[:7]
	q := newQueue(t, 100, "")
	q.Put(given)
	if string(room) != "abc\r\ndefgh" {
		t.Errorf("Put changed %q", room)
	}
	fill(room)
	peek := q.Peek(7)
	if string(peek) != "abc\r\nde" {
		t.Errorf("Put kept what was handed in: %q", peek)
	}
	fill(peek)
	fill(q.Peek(3))
	line, _ := q.Line()
	if string(line) != "abc" {
		t.Errorf("Peek hands its own memory out: %q", line)
	}
	fill(line)
	one := q.Take(1)
	if string(one) != "d" {
		t.Errorf("Line hands its own memory out: %q", one)
	}
	fill(one)
	q.Put([]byte("xyz"))
	if string(one[:1]) != "#" || string(line) != "###" || string(q.Take(9)) != "exyz" {
		t.Error("Take hands its own memory out")
	}
}

func TestP101QueuesAreAlone(t *testing.T) {
	a, b := newQueue(t, 10, "a\n"), newQueue(t, 10, "b\n")
	if l, ok := a.Line(); string(l) != "a" || !ok || b.Len() != 2 {
		t.Error("two queues share something")
	}
	if l, ok := b.Line(); string(l) != "b" || !ok {
		t.Error("two queues share something")
	}
}

// TestP106InOrder holds a queue against a plain list, call by call.
func TestP106InOrder(t *testing.T) {
	for seed := range int64(60) {
		r := rand.New(rand.NewSource(seed))
		limit := 1 + r.Intn(200)
		q := newQueue(t, limit, "")
		var put, taken, held []byte
		for range 500 {
			switch r.Intn(4) {
			case 0, 1:
				b := make([]byte, r.Intn(limit+2))
				for i := range b {
					b[i] = "ab\r\n"[r.Intn(4)]
				}
				e := q.Put(b)
				if fits := len(held)+len(b) <= limit; fits != (e == api.OK) || !fits && e != api.ErrSize {
					t.Fatalf("Put of %d to %d of %d: %d", len(b), len(held), limit, e)
				}
				if e == api.OK {
					held, put = append(held, b...), append(put, b...)
				}
			case 2:
				n := r.Intn(limit+3) - 1
				want := held[:max(0, min(n, len(held)))]
				if !bytes.Equal(q.Peek(n), want) || !bytes.Equal(q.Take(n), want) {
					t.Fatalf("the first %d of %q", n, held)
				}
				taken, held = append(taken, want...), held[len(want):]
			case 3:
				at := bytes.IndexByte(held, '\n')
				l, ok := q.Line()
				if ok != (at >= 0) || !ok && len(l) != 0 || ok && !bytes.Equal(l, bytes.TrimSuffix(held[:at], []byte("\r"))) {
					t.Fatalf("Line of %q: %q, %v", held, l, ok)
				}
				taken, held = append(taken, held[:at+1]...), held[at+1:]
			}
			if q.Len() != len(held) || !bytes.Equal(q.Peek(limit), held) {
				t.Fatalf("%q, not %q", q.Peek(limit), held)
			}
			if !bytes.HasPrefix(put, taken) {
				t.Fatal("what is taken is not the beginning of what was put")
			}
		}
		if taken = append(taken, q.Take(limit)...); !bytes.Equal(taken, put) {
			t.Fatal("what is taken, with what is left, is not what was put")
		}
	}
}
