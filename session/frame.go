package session

import (
	"slices"
	"strings"

	"contacts/api"
	"contacts/wire"
)

// branch is the digest of the registers whose keys go on so behind a prefix.
type branch struct {
	rest   string
	digest api.Digest
}

// part is what one side has below a prefix: each of its keys there begins with one of the branches. One without branches asks for all that the other side has there.
type part struct {
	prefix   string
	branches []branch
}

// covers: does a branch stand for that key, which begins with the prefix?
func (p part) covers(key string) bool {
	rest := key[len(p.prefix):]
	return slices.ContainsFunc(p.branches, func(b branch) bool { return strings.HasPrefix(rest, b.rest) })
}

// frame is what one side tells at a time: registers to be taken in, and parts to be compared.
type frame struct {
	registers []api.Register
	parts     []part
}

type writer struct{ wire.Writer }

func (w *writer) branch(b branch) {
	w.Text(b.rest)
	w.Digest(b.digest)
}

func (w *writer) part(p part) {
	w.Text(p.prefix)
	wire.WriteList(&w.Writer, p.branches, w.branch)
}

// bytes is the frame as bytes; none, if it tells nothing.
func (f frame) bytes() []byte {
	if len(f.registers) == 0 && len(f.parts) == 0 {
		return nil
	}
	var w writer
	wire.WriteList(&w.Writer, f.registers, w.Register)
	wire.WriteList(&w.Writer, f.parts, w.part)
	return w.Bytes()
}

type reader struct{ *wire.Reader }

func (r reader) branch() branch {
	var b branch
	b.rest = r.Text()
	b.digest = r.Digest()
	return b
}

func (r reader) part() part {
	var p part
	p.prefix = r.Text()
	p.branches = wire.ReadList(r.Reader, r.branch)
	return p
}

// read is the frame that bytes tell; an empty one, if they tell none.
func read(data []byte) frame {
	var f frame
	r := reader{wire.NewReader(data)}
	f.registers = wire.ReadList(r.Reader, r.Register)
	f.parts = wire.ReadList(r.Reader, r.part)
	if !r.Whole() {
		return frame{}
	}
	return f
}
