// Package wire writes what the program tells as bytes, and reads it again. Each thing says itself where it ends, so nothing that was written can be read from fewer bytes.
package wire

import "contacts/api"

// A number is written seven bits a byte, the lowest first; this bit says that more of it comes.
const more = 0x80

// Writer writes one thing behind the other; its zero value has written nothing.
type Writer struct{ data []byte }

// Bytes is what was written.
func (w *Writer) Bytes() []byte { return w.data }

func (w *Writer) octet(b byte) { w.data = append(w.data, b) }

// Number writes a number; its sign goes to the lowest bit, so that one that is not far from 0 is short.
func (w *Writer) Number(n int) {
	u := uint64(n) << 1
	if n < 0 {
		u = ^u
	}
	for ; u >= more; u >>= 7 {
		w.octet(byte(u) | more)
	}
	w.octet(byte(u))
}

// Text writes a text of any bytes.
func (w *Writer) Text(text string) { WriteList(w, []byte(text), w.octet) }

// Register writes a register.
func (w *Writer) Register(x api.Register) {
	w.Text(x.Name)
	w.Text(x.Field)
	w.Number(x.Stamp.Counter)
	w.Number(x.Stamp.Replica)
	w.Text(x.Value)
}

// Digest writes a digest.
func (w *Writer) Digest(d api.Digest) { w.data = append(w.data, d[:]...) }

// WriteList writes how many there are, then each of them by one.
func WriteList[T any](w *Writer, items []T, one func(T)) {
	w.Number(len(items))
	for _, x := range items {
		one(x)
	}
}

// Reader reads one thing behind the other. When bytes are lacking it tells noughts from then on, so that it is enough to ask Whole in the end.
type Reader struct {
	rest   []byte
	broken bool
}

// NewReader is a reader of these bytes; it only reads them, and what it tells shares no memory with them.
func NewReader(data []byte) *Reader { return &Reader{rest: data} }

// Whole: was all that was read there, and is nothing left?
func (r *Reader) Whole() bool { return !r.broken && len(r.rest) == 0 }

func (r *Reader) fail() { r.rest, r.broken = nil, true }

// take is the next bytes, as many as asked for, or none.
func (r *Reader) take(n int) []byte {
	if n > len(r.rest) {
		r.fail()
		return nil
	}
	head := r.rest[:n]
	r.rest = r.rest[n:]
	return head
}

func (r *Reader) octet() byte {
	var b [1]byte
	copy(b[:], r.take(len(b)))
	return b[0]
}

// Number reads a number.
func (r *Reader) Number() int {
	var u uint64
	for shift := 0; shift < 64; shift += 7 {
		b := r.octet()
		u |= uint64(b&^more) << shift
		if b < more {
			return int(u>>1) ^ -int(u&1)
		}
	}
	r.fail()
	return 0
}

// Text reads a text.
func (r *Reader) Text() string { return string(ReadList(r, r.octet)) }

// Register reads a register; whether it is one that may be written is not asked here.
func (r *Reader) Register() api.Register {
	var x api.Register
	x.Name = r.Text()
	x.Field = r.Text()
	x.Stamp.Counter = r.Number()
	x.Stamp.Replica = r.Number()
	x.Value = r.Text()
	return x
}

// Digest reads a digest.
func (r *Reader) Digest() api.Digest {
	var d api.Digest
	copy(d[:], r.take(len(d)))
	return d
}

// ReadList reads how many there are, then each of them by one, which reads a byte at least.
func ReadList[T any](r *Reader, one func() T) []T {
	n := r.Number()
	// No list has more items than bytes: a greater number was never written, and must not be counted up to.
	if n < 0 || n > len(r.rest) {
		r.fail()
		return nil
	}
	var items []T
	for range n {
		items = append(items, one())
	}
	return items
}
