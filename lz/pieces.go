package lz

import (
	"iter"

	"gatehouse/api"
)

// text: in which copies are looked for.
type text struct {
	bytes         []byte
	back          []int
	window, depth int
}

// Pieces: of a text.
func Pieces(b []byte, window, depth int) ([]Piece, api.Errno) {
	if window < 1 || window > farthest || depth < 0 || depth > deepest {
		return nil, api.ErrArg
	}
	if len(b) > api.MaxBytes {
		return nil, api.ErrSize
	}
	t := text{b, stepsBack(b), window, depth}
	var l []Piece
	for place := 0; place < len(b); {
		p := t.piece(place)
		l = append(l, p)
		place += p.size()
	}
	return l, api.OK
}

// stepsBack: how far ahead of each place the nearest one with the same three bytes stands; 0: there is none.
func stepsBack(b []byte) []int {
	steps := make([]int, len(b))
	last := map[[shortest]byte]int{}
	for place := range len(b) - shortest + 1 {
		three := [shortest]byte{b[place], b[place+1], b[place+2]}
		if ahead, ok := last[three]; ok {
			steps[place] = place - ahead
		}
		last[three] = place
	}
	return steps
}

func (t text) piece(place int) Piece {
	length, dist := t.greatest(place)
	if length == 0 {
		return Piece{Byte: t.bytes[place]}
	}
	return Piece{Len: length, Dist: dist}
}

// greatest: the greatest length of the place's candidates, and how far back the nearest one that has it stands.
func (t text) greatest(place int) (length, dist int) {
	rest := t.bytes[place:]
	rest = rest[:min(len(rest), longest)]
	for d := range t.candidates(place) {
		from := t.bytes[place-d:]
		// A candidate that is greater has the next byte, too: most are left away by that byte alone.
		if from[length] != rest[length] {
			continue
		}
		if n := common(from, rest); n > length {
			length, dist = n, d
		}
		if length == len(rest) {
			break
		}
	}
	return length, dist
}

// candidates: how far back of the place each of them stands, the nearest first.
func (t text) candidates(place int) iter.Seq[int] {
	return func(yield func(dist int) bool) {
		dist := 0
		for range t.depth {
			step := t.back[place-dist]
			dist += step
			if step == 0 || dist > t.window || !yield(dist) {
				return
			}
		}
	}
}

// common: how many bytes at the beginning of rest stand at that of from, too, which is longer.
func common(from, rest []byte) int {
	for k, c := range rest {
		if from[k] != c {
			return k
		}
	}
	return len(rest)
}
