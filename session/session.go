// Package session finds out what two books differ in, and tells each what it lacks. The sides tell by turns: digests of what they have below prefixes that grow longer, and, where these differ and little is left, the registers.
package session

import (
	"slices"
	"strings"

	"contacts/api"
	"contacts/book"
	"contacts/digest"
)

// few is how many registers are told rather than parted by digests. More of them would save frames, but one key that differs must not cost more than api.Each bytes, and the digests on the way to it may take most of these.
const few = 4

// Side is one side of a session.
type Side struct {
	book *book.Book
	// held is what the book held when the session began. Digests are of these alone: it is of the sides' own registers that no two different sets may have one digest, and nothing is said of sets in which both sides' are mixed.
	held []api.Register
}

// New is the side of a book, in which it takes in what it is told.
func New(b *book.Book) *Side { return &Side{book: b, held: slices.Collect(b.Registers(""))} }

// leading is how many of the registers come ahead of the first whose key does not begin so.
func leading(registers []api.Register, prefix string) int {
	for i, x := range registers {
		if !strings.HasPrefix(book.Key(x), prefix) {
			return i
		}
	}
	return len(registers)
}

// below is the registers held whose keys begin so.
func (s *Side) below(prefix string) []api.Register {
	first, _ := slices.BinarySearchFunc(s.held, prefix, func(x api.Register, prefix string) int {
		return strings.Compare(book.Key(x), prefix)
	})
	rest := s.held[first:]
	return rest[:leading(rest, prefix)]
}

func (s *Side) digest(prefix string) api.Digest { return digest.Of(slices.Values(s.below(prefix))) }

// fork is where two different keys part: how many bytes they share. None of them begins with the other, since a nought byte ends each.
func fork(a, b string) int {
	n := 0
	for a[n] == b[n] {
		n++
	}
	return n
}

// branches parts two registers and more, below a prefix, at the first byte in which their keys differ.
func branches(registers []api.Register, prefix string) []branch {
	// They are in order, so the first and the last key share no more than all of them do.
	end := fork(book.Key(registers[0]), book.Key(registers[len(registers)-1])) + 1
	var l []branch
	for len(registers) > 0 {
		head := book.Key(registers[0])[:end]
		n := leading(registers, head)
		l = append(l, branch{head[len(prefix):], digest.Of(slices.Values(registers[:n]))})
		registers = registers[n:]
	}
	return l
}

// open adds what is held below a prefix: the registers, asking for the other side's, if they are few; else the digests of its branches.
func (s *Side) open(prefix string, answer *frame) {
	p, held := part{prefix: prefix}, s.below(prefix)
	if len(held) <= few {
		answer.registers = append(answer.registers, held...)
	} else {
		p.branches = branches(held, prefix)
	}
	answer.parts = append(answer.parts, p)
}

// compare adds what the other side lacks below a part's prefix, and opens the branches that differ.
func (s *Side) compare(p part, answer *frame) {
	for _, x := range s.below(p.prefix) {
		if !p.covers(book.Key(x)) {
			answer.registers = append(answer.registers, x)
		}
	}
	for _, b := range p.branches {
		if prefix := p.prefix + b.rest; s.digest(prefix) != b.digest {
			s.open(prefix, answer)
		}
	}
}

// Begin is the first frame: the digest of all that is held. That of a scrub tells all of it, and asks for all that the other side has.
func (s *Side) Begin(scrub bool) []byte {
	if scrub {
		return frame{registers: s.held, parts: []part{{}}}.bytes()
	}
	all := branch{digest: s.digest("")}
	return frame{parts: []part{{branches: []branch{all}}}}.bytes()
}

// Answer takes in what a frame tells, and is the frame that goes back; an empty one, if there is no more to tell.
func (s *Side) Answer(data []byte) []byte {
	told := read(data)
	for _, x := range told.registers {
		s.book.Take(x)
	}
	var answer frame
	for _, p := range told.parts {
		s.compare(p, &answer)
	}
	return answer.bytes()
}
