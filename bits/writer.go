package bits

import (
	"bytes"

	"gatehouse/api"
)

// Writer: bits that are put.
type Writer struct {
	self  *Writer // a copy is none that NewWriter made, and would write into the same memory
	row   []byte  // bits 0 stand behind the last one that was put
	count int
}

// NewWriter: without bits.
func NewWriter() *Writer {
	w := &Writer{}
	w.self = w
	return w
}

// made: by NewWriter?
func (w *Writer) made() bool { return w != nil && w.self == w }

func (w *Writer) Put(n, bits int) api.Errno {
	// Of an n below 0, too, the shift leaves something.
	if !w.made() || bits < 0 || bits > most || n>>bits != 0 {
		return api.ErrArg
	}
	if bits > 8*api.MaxBytes-w.count {
		return api.ErrSize
	}
	for k := range bits {
		w.putBit(n >> k & 1)
	}
	return api.OK
}

func (w *Writer) putBit(bit int) {
	if w.count == 8*len(w.row) {
		w.row = append(w.row, 0)
	}
	if bit == 1 {
		w.row[w.count/8] |= masks[w.count%8]
	}
	w.count++
}

// Align has none to write: the bits 0 stand there already.
func (w *Writer) Align() {
	if w.made() {
		w.count = 8 * len(w.row)
	}
}

func (w *Writer) Raw(b []byte) api.Errno {
	if !w.made() {
		return api.ErrArg
	}
	if len(b) > api.MaxBytes-len(w.row) {
		return api.ErrSize
	}
	w.row = append(w.row, b...)
	w.Align()
	return api.OK
}

func (w *Writer) Bits() int {
	if !w.made() {
		return 0
	}
	return w.count
}

func (w *Writer) Bytes() []byte {
	if !w.made() {
		return nil
	}
	return bytes.Clone(w.row)
}
