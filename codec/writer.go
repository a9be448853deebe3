package codec

// Writer gathers bytes.
type Writer struct {
	out []byte
}

// New is a Writer that has no bytes.
func New() *Writer { return &Writer{} }

// Byte writes one byte.
func (w *Writer) Byte(b byte) { w.out = append(w.out, b) }

// Uint writes a number without sign: seven bits a byte, the lowest ones first.
func (w *Writer) Uint(n uint64) {
	for n >= 128 {
		w.Byte(byte(n) | 128)
		n >>= 7
	}
	w.Byte(byte(n))
}

// Int writes a number with sign.
func (w *Writer) Int(n int64) {
	if n < 0 {
		// -1 - n instead of -n: the least int64 has no positive twin.
		w.Uint(uint64(-1-n)*2 + 1)
		return
	}
	w.Uint(uint64(n) * 2)
}

// Bytes writes a length and as many bytes.
func (w *Writer) Bytes(b []byte) {
	w.Uint(uint64(len(b)))
	w.Raw(b)
}

// Raw writes bytes as they are.
func (w *Writer) Raw(b []byte) { w.out = append(w.out, b...) }

// Len is how many bytes there are.
func (w *Writer) Len() int { return len(w.out) }

// Out is the bytes.
func (w *Writer) Out() []byte { return fresh(w.out) }
