package gzip

import (
	"bytes"
	"encoding/binary"
	"math/rand"
	"testing"

	"gatehouse/api"
	"gatehouse/deflate"
	"gatehouse/inflate"
)

// modelSum: the chapter's words, bit by bit.
func modelSum(b []byte) uint32 {
	register := uint32(1<<32 - 1)
	for _, c := range b {
		for bit := range 8 {
			unlike := uint32(c)>>bit&1 != register&1
			register /= 2
			if unlike {
				register ^= 3988292384
			}
		}
	}
	return 1<<32 - 1 - register
}

// modelPack: a member without flags.
func modelPack(t *testing.T, text string, level, mtime int) []byte {
	t.Helper()
	blocks, e := deflate.Deflate([]byte(text), level)
	if e != api.OK {
		t.Fatal(e)
	}
	return withEnd(plainHead(mtime)+string(blocks), text)
}

func plainHead(mtime int) string {
	return "\x1f\x8b\x08\x00" + low(mtime, 4) + "\x00\xff"
}

// low: a number of some bytes, its low byte first.
func low(n, size int) string {
	var b []byte
	for range size {
		b = append(b, byte(n%256))
		n /= 256
	}
	return string(b)
}

// withEnd: the sum and the size of the text behind it.
func withEnd(b, text string) []byte {
	return []byte(b + low(int(modelSum([]byte(text))), 4) + low(len(text), 4))
}

// modelMember: the text of the first member, and what stands behind it: the chapter once more, without a reader.
func modelMember(b []byte, most int) (text, behind []byte, e api.Errno) {
	for k, c := range []byte{31, 139, 8} {
		if k < len(b) && b[k] != c {
			return nil, nil, api.ErrGzip
		}
	}
	if len(b) > 3 && b[3] >= 32 {
		return nil, nil, api.ErrGzip
	}
	if len(b) < 10 {
		return nil, nil, api.ErrEnd
	}
	left := b[10:]
	if b[3]&4 != 0 {
		if len(left) < 2 || len(left) < 2+int(left[0])+256*int(left[1]) {
			return nil, nil, api.ErrEnd
		}
		left = left[2+int(left[0])+256*int(left[1]):]
	}
	for _, flag := range []byte{8, 16} {
		if b[3]&flag != 0 {
			_, after, ok := bytes.Cut(left, []byte{0})
			if !ok {
				return nil, nil, api.ErrEnd
			}
			left = after
		}
	}
	if b[3]&2 != 0 {
		if len(left) < 2 {
			return nil, nil, api.ErrEnd
		}
		if int(binary.LittleEndian.Uint16(left)) != int(modelSum(b[:len(b)-len(left)]))%65536 {
			return nil, nil, api.ErrGzip
		}
		left = left[2:]
	}
	text, used, e := inflate.Inflate(left, most)
	if e != api.OK {
		return nil, nil, e
	}
	if len(left)-used < 8 {
		return nil, nil, api.ErrEnd
	}
	if string(left[used:used+8]) != string(withEnd("", string(text))) {
		return nil, nil, api.ErrGzip
	}
	return text, left[used+8:], api.OK
}

func modelUnpack(b []byte, most int) (all []byte, members int, e api.Errno) {
	for members == 0 || len(b) > 0 {
		text, behind, e := modelMember(b, most-len(all))
		if e != api.OK {
			return nil, 0, e
		}
		all, b = append(all, text...), behind
		members++
	}
	return all, members, api.OK
}

// compare: with the model.
func compare(t *testing.T, b []byte, most int) api.Errno {
	t.Helper()
	want, _, e := modelUnpack(b, most)
	if got, f := Unpack(b, most); !bytes.Equal(got, want) || f != e {
		t.Fatalf("% .200x, at most %d: % .60x (%d), %d, not % .60x (%d), %d", b, most, got, len(got), f, want, len(want), e)
	}
	_, n, g := modelUnpack(b, api.MaxBytes)
	if m, f := Members(b); m != n || f != g {
		t.Fatalf("% .200x: %d members, %d, not %d, %d", b, m, f, n, g)
	}
	return e
}

func someText(r *rand.Rand, size int) string {
	b := make([]byte, size)
	letters := 1 + r.Intn(1<<r.Intn(9))
	for k := range b {
		b[k] = byte(r.Intn(letters))
	}
	return string(b)
}

// someMember: with flags at random, and how many bytes its text has.
func someMember(r *rand.Rand) ([]byte, int) {
	text := someText(r, r.Intn(1<<r.Intn(12)))
	flags := r.Intn(32)
	b := "\x1f\x8b\x08" + string(rune(flags)) + someText(r, 6)
	if flags&4 != 0 {
		n := r.Intn(1 << r.Intn(10))
		b += low(n, 2) + someText(r, n)
	}
	for _, flag := range []int{8, 16} {
		if flags&flag != 0 {
			b += string(bytes.ReplaceAll([]byte(someText(r, r.Intn(20))), []byte{0}, []byte{7})) + "\x00"
		}
	}
	if flags&2 != 0 {
		b += low(int(modelSum([]byte(b)))%65536, 2)
	}
	blocks, _ := deflate.Deflate([]byte(text), r.Intn(10))
	return withEnd(b+string(blocks), text), len(text)
}

func someMembers(r *rand.Rand) (b []byte, size int) {
	for range 1 + r.Intn(4) {
		m, n := someMember(r)
		b, size = append(b, m...), size+n
	}
	return b, size
}

func TestP704SomeMembers(t *testing.T) {
	r := rand.New(rand.NewSource(1))
	for range 500 {
		b, size := someMembers(r)
		for _, most := range []int{size, size + 1, api.MaxBytes} {
			if e := compare(t, b, most); e != api.OK {
				t.Fatalf("% .200x: %d", b, e)
			}
		}
		if size > 0 {
			if e := compare(t, b, size-1); e != api.ErrSize {
				t.Fatalf("% .200x: %d", b, e)
			}
			compare(t, b, r.Intn(size))
		}
	}
}

// Bytes are changed, lost and put between at random.
func TestP704SomeWrong(t *testing.T) {
	r := rand.New(rand.NewSource(2))
	told := map[api.Errno]int{}
	for range 3000 {
		b, size := someMembers(r)
		for range 1 + r.Intn(2) {
			k := r.Intn(len(b))
			if r.Intn(2) == 0 {
				k = r.Intn(min(len(b), 30))
			}
			switch r.Intn(4) {
			case 0:
				b[k] ^= 1 << r.Intn(8)
			case 1:
				b[k] = byte(r.Intn(256))
			case 2:
				b = b[:k+1]
			case 3:
				b = append(b[:k:k], b[k+1:]...)
			}
			if len(b) == 0 {
				break
			}
		}
		told[compare(t, b, r.Intn(2*size+1))]++
		told[compare(t, b, api.MaxBytes)]++
	}
	for _, e := range []api.Errno{api.OK, api.ErrGzip, api.ErrEnd, api.ErrSize, api.ErrBlock, api.ErrCode} {
		if told[e] == 0 {
			t.Errorf("none ended with %d: %v", e, told)
		}
	}
}
