package contacts

import (
	"slices"

	"contacts/api"
	"contacts/checksum"
	"contacts/wire"
)

// Save tells a replica as bytes (P9).
func (r *Replica) Save() []byte {
	r = r.made()
	var w wire.Writer
	w.Number(r.id)
	wire.WriteList(&w, slices.Collect(r.Registers()), w.Register)
	w.Digest(r.Digest(""))
	return checksum.Seal(w.Bytes())
}

// Load makes the replica that Save told (P9).
func Load(data []byte) (*Replica, error) {
	// The check sum finds a bit that was turned; what was cut short is found by the reader, even if the sum happens to be right.
	body, ok := checksum.Open(data)
	if !ok {
		return nil, fault(api.ErrBroken, "")
	}
	in := wire.NewReader(body)
	r := New(in.Number())
	for _, x := range wire.ReadList(in, in.Register) {
		if !writable(x) {
			return nil, fault(api.ErrBroken, "")
		}
		r.book.Take(x)
	}
	if in.Digest() != r.Digest("") || !in.Whole() {
		return nil, fault(api.ErrBroken, "")
	}
	return r, nil
}
