package gzip

import (
	"bytes"
	"compress/gzip"
	"io"
	"math"
	"math/rand"
	"slices"
	"strings"
	"testing"

	"gatehouse/api"
	"gatehouse/deflate"
)

func packed(t *testing.T, text string, level int) []byte {
	t.Helper()
	b, e := Pack([]byte(text), level, 0)
	if e != api.OK {
		t.Fatal(e)
	}
	return b
}

// unpacks: these are members of this text, and it is refused where just less is allowed.
func unpacks(t *testing.T, b []byte, want string, members int) {
	t.Helper()
	for _, most := range []int{len(want), api.MaxBytes} {
		if got, e := Unpack(b, most); string(got) != want || e != api.OK {
			t.Errorf("% .60x, at most %d: %.60q (%d), %d, not %.60q (%d)", b, most, got, len(got), e, want, len(want))
		}
	}
	if len(want) > 0 {
		if got, e := Unpack(b, len(want)-1); len(got) != 0 || e != api.ErrSize {
			t.Errorf("% .60x, too much: %.60q (%d), %d", b, got, len(got), e)
		}
	}
	if n, e := Members(b); n != members || e != api.OK {
		t.Errorf("% .60x: %d members, %d, not %d", b, n, e, members)
	}
}

func refuses(t *testing.T, b []byte, want api.Errno) {
	t.Helper()
	for _, most := range []int{api.MaxBytes - 1, api.MaxBytes} {
		if got, e := Unpack(b, most); len(got) != 0 || e != want {
			t.Errorf("% .60x, at most %d: %.60q (%d), %d, not %d", b, most, got, len(got), e, want)
		}
	}
	if n, e := Members(b); n != 0 || e != want {
		t.Errorf("% .60x: %d members, %d, not %d", b, n, e, want)
	}
}

func TestP703Examples(t *testing.T) {
	for _, c := range []struct {
		text         string
		level, mtime int
		want         []byte
	}{
		{"", 6, 0, []byte{31, 139, 8, 0, 0, 0, 0, 0, 0, 255, 3, 0, 0, 0, 0, 0, 0, 0, 0, 0}},
		{"abc", 6, 0, []byte{31, 139, 8, 0, 0, 0, 0, 0, 0, 255, 75, 76, 74, 6, 0, 194, 65, 36, 53, 3, 0, 0, 0}},
		{"abc", 0, 0x04030201, []byte{31, 139, 8, 0, 1, 2, 3, 4, 0, 255, 1, 3, 0, 252, 255, 97, 98, 99, 194, 65, 36, 53, 3, 0, 0, 0}},
		{"", 0, 1<<32 - 1, []byte{31, 139, 8, 0, 255, 255, 255, 255, 0, 255, 1, 0, 0, 255, 255, 0, 0, 0, 0, 0, 0, 0, 0}},
		{"", 9, 1 << 31, []byte{31, 139, 8, 0, 0, 0, 0, 128, 0, 255, 3, 0, 0, 0, 0, 0, 0, 0, 0, 0}},
	} {
		if b, e := Pack([]byte(c.text), c.level, c.mtime); !bytes.Equal(b, c.want) || e != api.OK {
			t.Errorf("%q, %d, %d: %d, %d, not %d", c.text, c.level, c.mtime, b, e, c.want)
		}
	}
}

func TestP703Wrong(t *testing.T) {
	great := make([]byte, api.MaxBytes/2+1)
	for _, b := range [][]byte{nil, []byte("abc"), great} {
		for _, mtime := range []int{-1, 1 << 32, 1<<32 + 1, math.MinInt, math.MaxInt} {
			for _, level := range []int{-1, 0, 6, 10} {
				if got, e := Pack(b, level, mtime); len(got) != 0 || e != api.ErrArg {
					t.Errorf("%d bytes, %d, %d: % .60x, %d", len(b), level, mtime, got, e)
				}
			}
		}
		for _, level := range []int{-1, 10, 1 << 32, math.MinInt, math.MaxInt} {
			if got, e := Pack(b, level, 0); len(got) != 0 || e != api.ErrArg {
				t.Errorf("%d bytes, %d: % .60x, %d", len(b), level, got, e)
			}
		}
	}
	if got, e := Pack(great, 6, 0); len(got) != 0 || e != api.ErrSize {
		t.Errorf("% .60x, %d", got, e)
	}
	text := string(great[1:])
	if got, e := Pack(great[1:], 6, 7); !bytes.Equal(got, modelPack(t, text, 6, 7)) || e != api.OK {
		t.Errorf("% .60x, %d", got, e)
	}
}

// The library reads a member back, and what its head tells.
func TestP703Library(t *testing.T) {
	r := rand.New(rand.NewSource(1))
	for k := range 200 {
		text, mtime := someText(r, r.Intn(1<<r.Intn(14))), r.Intn(1<<32)
		b, e := Pack([]byte(text), k%10, mtime)
		if e != api.OK || !bytes.Equal(b, modelPack(t, text, k%10, mtime)) {
			t.Fatalf("%.60x, %d, %d: % .60x, %d", text, k%10, mtime, b, e)
		}
		from, err := gzip.NewReader(bytes.NewReader(b))
		if err != nil {
			t.Fatal(err)
		}
		got, err := io.ReadAll(from)
		if string(got) != text || err != nil || mtime > 0 && int(from.ModTime.Unix()) != mtime || from.OS != 255 || from.Name+from.Comment != "" || from.Extra != nil {
			t.Fatalf("%.60x: %.60x, %v, %+v", text, got, err, from.Header)
		}
	}
}

func TestP704Examples(t *testing.T) {
	refuses(t, []byte{31, 139, 8, 32}, api.ErrGzip)
	refuses(t, nil, api.ErrEnd)
	refuses(t, []byte{}, api.ErrEnd)
	unpacks(t, packed(t, "", 6), "", 1)
	unpacks(t, packed(t, "abc", 6), "abc", 1)
}

func TestP704Bounds(t *testing.T) {
	b := packed(t, "abc", 6)
	great := make([]byte, api.MaxBytes+1)
	for _, most := range []int{-1, api.MaxBytes + 1, 1 << 32, math.MinInt, math.MaxInt} {
		for _, b := range [][]byte{nil, b, great} {
			if got, e := Unpack(b, most); len(got) != 0 || e != api.ErrArg {
				t.Errorf("%d bytes, at most %d: %q, %d", len(b), most, got, e)
			}
		}
	}
	for _, most := range []int{0, 3, api.MaxBytes} {
		if got, e := Unpack(great, most); len(got) != 0 || e != api.ErrSize {
			t.Errorf("at most %d: %q, %d", most, got, e)
		}
	}
	refuses(t, great, api.ErrSize)
	refuses(t, great[1:], api.ErrGzip)
	copy(great, b)
	refuses(t, great, api.ErrSize)
}

// A member may have a head of nearly all bytes that are allowed.
func TestP704GreatHead(t *testing.T) {
	name := strings.Repeat("n", api.MaxBytes-10-1-5-8)
	b := withEnd("\x1f\x8b\x08\x08\x00\x00\x00\x00\x00\xff"+name+"\x00"+"\x4b\x4c\x4a\x06\x00", "abc")
	if len(b) != api.MaxBytes {
		t.Fatal(len(b))
	}
	unpacks(t, b, "abc", 1)
	refuses(t, append(b, 31), api.ErrSize)
	refuses(t, b[:len(b)-1], api.ErrEnd)
}

// Of the first three bytes those that are there are looked at ahead of those that are not.
func TestP704FirstBytes(t *testing.T) {
	b := packed(t, "abc", 6)
	for size := range 4 {
		refuses(t, b[:size], api.ErrEnd)
		for k := range size {
			for c := range 256 {
				wrong := slices.Clone(b[:size])
				if wrong[k] = byte(c); wrong[k] != b[k] {
					refuses(t, wrong, api.ErrGzip)
					refuses(t, append(wrong, b[size:]...), api.ErrGzip)
					refuses(t, slices.Concat(b, wrong[:size]), api.ErrGzip)
				}
			}
		}
	}
}

func TestP704Flags(t *testing.T) {
	parts := []struct {
		flag int
		b    string
	}{{4, "\x03\x00\x00x\x00"}, {8, "name\x00"}, {16, "it\xff\x00"}}
	for flags := range 256 {
		b := "\x1f\x8b\x08" + string([]byte{byte(flags)}) + "\x01\x02\x03\x04\x05\x06"
		for _, p := range parts {
			if flags&p.flag != 0 {
				b += p.b
			}
		}
		if flags&2 != 0 {
			b += low(int(modelSum([]byte(b)))%65536, 2)
		}
		m := withEnd(b+"\x4b\x4c\x4a\x06\x00", "abc")
		if flags > 31 {
			refuses(t, m, api.ErrGzip)
			refuses(t, m[:4], api.ErrGzip)
			continue
		}
		unpacks(t, m, "abc", 1)
		unpacks(t, slices.Concat(m, m), "abcabc", 2)
		for size := range len(m) {
			refuses(t, m[:size], api.ErrEnd)
		}
	}
}

// The time and the two bytes behind it count for nothing.
func TestP704Nothing(t *testing.T) {
	for k := 4; k < 10; k++ {
		for _, c := range []byte{0, 1, 31, 128, 255} {
			b := packed(t, "abc", 6)
			b[k] = c
			unpacks(t, b, "abc", 1)
		}
	}
}

func TestP704Extra(t *testing.T) {
	blocks := "\x4b\x4c\x4a\x06\x00"
	for _, n := range []int{0, 1, 255, 256, 257, 65535} {
		head := "\x1f\x8b\x08\x04\x00\x00\x00\x00\x00\xff" + low(n, 2)
		b := withEnd(head+strings.Repeat("\x00", n)+blocks, "abc")
		unpacks(t, b, "abc", 1)
		refuses(t, b[:len(head)+max(0, n-1)], api.ErrEnd)
	}
	refuses(t, withEnd("\x1f\x8b\x08\x04\x00\x00\x00\x00\x00\xff\xff\xff"+blocks, "abc"), api.ErrEnd)
}

func TestP704Texts(t *testing.T) {
	head := func(flags string) string { return "\x1f\x8b\x08" + flags + "\x00\x00\x00\x00\x00\xff" }
	blocks := "\x4b\x4c\x4a\x06\x00"
	unpacks(t, withEnd(head("\x08")+"\x00"+blocks, "abc"), "abc", 1)
	unpacks(t, withEnd(head("\x10")+"\x00"+blocks, "abc"), "abc", 1)
	unpacks(t, withEnd(head("\x18")+"\x00\x00"+blocks, "abc"), "abc", 1)
	unpacks(t, withEnd(head("\x18")+"\x00it\x00"+blocks, "abc"), "abc", 1)
	refuses(t, []byte(head("\x08")+"a name that does not end"), api.ErrEnd)
	refuses(t, []byte(head("\x18")+"name\x00it"), api.ErrEnd)
	refuses(t, withEnd(head("\x18")+"name\x00"+"\x00\x01\x00", ""), api.ErrBlock) // a comment of nothing, and no block
}

// The half sum is of all that is there ahead of it in its member, and of no member ahead.
func TestP704HalfSum(t *testing.T) {
	head := "\x1f\x8b\x08\x1a\x01\x02\x03\x04\x05\x06name\x00it\x00"
	half := low(int(modelSum([]byte(head)))%65536, 2)
	b := withEnd(head+half+"\x4b\x4c\x4a\x06\x00", "abc")
	unpacks(t, b, "abc", 1)
	unpacks(t, slices.Concat(packed(t, "x", 6), b, b), "xabcabc", 3)
	for k := range len(head) + 2 {
		if k == 3 || k < len(head) && head[k] == 0 {
			continue // another head
		}
		for bit := range 8 {
			wrong := slices.Clone(b)
			wrong[k] ^= 1 << bit
			if wrong[k] == 0 {
				continue
			}
			refuses(t, wrong, api.ErrGzip)
			if k >= len(head) {
				refuses(t, wrong[:len(head)+2], api.ErrGzip)
				refuses(t, wrong[:len(head)+1], api.ErrEnd)
				refuses(t, slices.Concat(b, wrong), api.ErrGzip)
			}
		}
	}
	refuses(t, []byte(head+half), api.ErrEnd)
	swapped := []byte(head + half[1:] + half[:1] + "\x4b\x4c\x4a\x06\x00")
	refuses(t, withEnd(string(swapped), "abc"), api.ErrGzip)
}

// What stands behind a member is one more.
func TestP704Behind(t *testing.T) {
	a, b := packed(t, "abc", 6), packed(t, "", 0)
	unpacks(t, slices.Concat(b, a, b, b, a), "abcabc", 5)
	refuses(t, append(slices.Clone(a), "x"...), api.ErrGzip)
	refuses(t, append(slices.Clone(a), 0), api.ErrGzip)
	for size := 1; size < len(a); size++ {
		refuses(t, slices.Concat(a, a[:size]), api.ErrEnd)
	}
	refuses(t, slices.Concat(a, a, []byte{31, 139, 8, 64}), api.ErrGzip)
}

func TestP704Blocks(t *testing.T) {
	for _, c := range []struct {
		blocks string
		e      api.Errno
	}{
		{"\x07", api.ErrBlock},
		{"\x01\x03\x00\xfc\xfe", api.ErrBlock},
		{"\x01\x03\x00\xfc\xffab", api.ErrEnd},
		{"\x1b\x03", api.ErrCode},  // the symbol 286
		{"\x03\x3e", api.ErrCode},  // the distance 30
		{"\x03\x02", api.ErrBlock}, // a copy of what is not there
		{"\x00\x00\x00\xff\xff", api.ErrEnd},
		{"", api.ErrEnd},
	} {
		b := []byte(plainHead(0) + c.blocks)
		refuses(t, b, c.e)
		refuses(t, slices.Concat(packed(t, "abc", 6), b), c.e)
		if c.e != api.ErrEnd {
			refuses(t, slices.Concat(b, make([]byte, 3000)), c.e)
		}
	}
}

// The most is for all members: what is left of it is for the next one.
func TestP704Most(t *testing.T) {
	a, b, c := packed(t, "abc", 6), packed(t, "defgh", 0), packed(t, "", 6)
	unpacks(t, slices.Concat(a, b, c, a, c), "abcdefghabc", 5)
	for most := range 8 {
		if got, e := Unpack(slices.Concat(a, b, c), most); len(got) != 0 || e != api.ErrSize {
			t.Errorf("at most %d: %q, %d", most, got, e)
		}
	}
	if got, e := Unpack(slices.Concat(c, c), 0); len(got) != 0 || e != api.OK {
		t.Error(got, e)
	}
	// What is too much is told as soon as it is there, ahead of what stands behind it.
	if got, e := Unpack(slices.Concat(a, b, []byte("x")), 7); len(got) != 0 || e != api.ErrSize {
		t.Error(got, e)
	}

	most := strings.Repeat("\x00", api.MaxBytes/2)
	half := packed(t, most, 9)
	unpacks(t, slices.Concat(half, half, c), most+most, 3)
	tooMuch := slices.Concat(half, half, packed(t, "\x00", 6))
	refuses(t, tooMuch, api.ErrSize)
}

// Blocks of any length, and whatever stands behind them.
func TestP704Long(t *testing.T) {
	r := rand.New(rand.NewSource(3))
	for _, around := range []int{1024, 8192, 65536, 1 << 19} {
		for size := around - 22; size <= around+3; size++ {
			if around > 10000 && size%5 != 0 {
				continue
			}
			text := someText(r, min(size, api.MaxBytes/2))
			b := slices.Concat(packed(t, text, 0), packed(t, "abc", 6))
			unpacks(t, b, text+"abc", 2)
			refuses(t, b[:len(b)-24], api.ErrEnd)
			refuses(t, b[:len(b)-40], api.ErrEnd)
			b[len(b)-24] ^= 1
			refuses(t, b, api.ErrGzip)
		}
	}
}

// As many members as there may be.
func TestP704Many(t *testing.T) {
	one := packed(t, "", 0)
	b := bytes.Repeat(one, api.MaxBytes/len(one))
	unpacks(t, b, "", api.MaxBytes/len(one))
	refuses(t, b[:len(b)-1], api.ErrEnd)
	one = packed(t, "abc", 0)
	b = bytes.Repeat(one, api.MaxBytes/len(one))
	unpacks(t, b, strings.Repeat("abc", len(b)/len(one)), len(b)/len(one))
	b[len(b)-1] = 1
	refuses(t, b, api.ErrGzip)
}

// What the library packs, with all that a head may have.
func TestP704Library(t *testing.T) {
	r := rand.New(rand.NewSource(4))
	for range 200 {
		var all bytes.Buffer
		var want string
		members := 1 + r.Intn(3)
		for range members {
			to, _ := gzip.NewWriterLevel(&all, r.Intn(12)-2)
			if r.Intn(2) == 0 {
				to.Name = "a name"
			}
			if r.Intn(2) == 0 {
				to.Comment = "it is one"
			}
			if r.Intn(2) == 0 {
				to.Extra = []byte(someText(r, 1+r.Intn(300)))
			}
			text := someText(r, r.Intn(1<<r.Intn(16)))
			for _, part := range []string{text[:len(text)/3], text[len(text)/3:]} {
				to.Write([]byte(part))
				if r.Intn(2) == 0 {
					to.Flush()
				}
			}
			to.Close()
			want += text
		}
		unpacks(t, all.Bytes(), want, members)
	}
}

func TestP706ThereAndBack(t *testing.T) {
	r := rand.New(rand.NewSource(5))
	last, before := "", []byte(nil)
	for k := range 200 {
		text := someText(r, r.Intn(1<<r.Intn(15)))
		b, e := Pack([]byte(text), k%10, r.Intn(1<<32))
		if e != api.OK {
			t.Fatal(e)
		}
		unpacks(t, b, text, 1)
		if k > 0 {
			unpacks(t, slices.Concat(before, b), last+text, 2)
			unpacks(t, slices.Concat(b, before), text+last, 2)
		}
		last, before = text, b
	}
}

func TestP707Refused(t *testing.T) {
	for level := range 10 {
		for _, text := range []string{"", "abc", strings.Repeat("gatehouse ", 300)} {
			b := packed(t, text, level)
			for bit := range 64 {
				wrong := slices.Clone(b)
				wrong[len(b)-8+bit/8] ^= 1 << (bit % 8)
				refuses(t, wrong, api.ErrGzip)
				refuses(t, slices.Concat(b, wrong), api.ErrGzip)
				refuses(t, slices.Concat(wrong, b), api.ErrGzip)
				// A byte that is missing is told first.
				refuses(t, wrong[:len(b)-1], api.ErrEnd)
				refuses(t, wrong[:len(b)-4], api.ErrEnd)
			}
			for size := range len(b) {
				if size < 100 || size > len(b)-20 {
					refuses(t, b[:size], api.ErrEnd)
				}
			}
		}
	}
	// The sum of another text.
	blocks, _ := deflate.Deflate([]byte("abc"), 6)
	refuses(t, withEnd(plainHead(0)+string(blocks), "abd"), api.ErrGzip)
	refuses(t, withEnd(plainHead(0)+string(blocks), ""), api.ErrGzip)
}

func TestP701Pure(t *testing.T) {
	room := []byte("abcabcabc, and what is behind it")
	before := string(room)
	one, e := Pack(room[:9], 6, 5)
	two, f := Pack(room[:9], 6, 5)
	want := modelPack(t, "abcabcabc", 6, 5)
	if e != api.OK || f != api.OK || string(room) != before || !bytes.Equal(one, want) {
		t.Fatal(one, e, f, string(room))
	}
	clear(one[:cap(one)])
	clear(room)
	if !bytes.Equal(two, want) {
		t.Errorf("answers share memory: % x", two)
	}

	room = append(slices.Concat(want, want), "behind it"...)
	before = string(room)
	for range 2 {
		Unpack([]byte{31, 139, 8, 0, 7}, 1)
		one, e = Unpack(room[:2*len(want)], 99)
		two, f = Unpack(room[:2*len(want)], 99)
		n, g := Members(room[:2*len(want)])
		if e != api.OK || f != api.OK || g != api.OK || n != 2 || string(one) != "abcabcabcabcabcabc" || string(room) != before {
			t.Fatal(one, e, f, n, g, string(room))
		}
		clear(one[:cap(one)])
		if string(two) != "abcabcabcabcabcabc" {
			t.Errorf("answers share memory: %q", two)
		}
	}
	clear(room)
	if string(two) != "abcabcabcabcabcabc" {
		t.Errorf("an answer shares memory with what was handed in: %q", two)
	}
	nothing, e := Pack(nil, 6, 0)
	empty, f := Pack([]byte{}, 6, 0)
	if !bytes.Equal(nothing, empty) || e != f {
		t.Error(nothing, empty, e, f)
	}
}
