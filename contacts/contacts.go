// Package contacts: an address book kept by replicas: see DOC.md.
package contacts

import (
	"iter"

	"contacts/api"
	"contacts/book"
	"contacts/digest"
)

// Replica is one keeper of the book.
type Replica struct {
	id   int
	book book.Book
	// begun is how many sessions it began with replicas of a number since the last scrub, by that number.
	begun map[int]int
}

// New makes a replica with that number and an empty book (P2).
func New(id int) *Replica { return &Replica{id: id} }

// made stands an empty replica in for a nil one, because no call may panic.
func (r *Replica) made() *Replica {
	if r == nil {
		return New(0)
	}
	return r
}

// stamp is the stamp of what the replica writes next.
func (r *Replica) stamp() api.Stamp {
	return api.Stamp{Counter: r.book.Next(), Replica: r.id}
}

// Put writes a field of a contact (P3).
func (r *Replica) Put(name, field, value string) error {
	if err := checkPut(name, field, value); err != nil {
		return err
	}
	r = r.made()
	r.book.Take(api.Register{Name: name, Field: field, Stamp: r.stamp(), Value: value})
	return nil
}

// Delete deletes a contact (P3).
func (r *Replica) Delete(name string) error {
	if err := checkName(name); err != nil {
		return err
	}
	r = r.made()
	if !r.book.Shows(name) {
		return fault(api.ErrAbsent, name)
	}
	r.book.Take(api.Register{Name: name, Stamp: r.stamp()})
	return nil
}

// Fields goes over a contact's fields and values (P4).
func (r *Replica) Fields(name string) iter.Seq2[string, string] {
	return func(yield func(string, string) bool) {
		for x := range r.made().book.Seen(name) {
			if !yield(x.Field, x.Value) {
				return
			}
		}
	}
}

// Names tells the contacts whose names begin so (P4).
func (r *Replica) Names(prefix string) []string { return r.made().book.Names(prefix) }

// Registers goes over all registers (P5).
func (r *Replica) Registers() iter.Seq[api.Register] { return r.made().book.Registers("") }

// Digest stands for the registers whose keys begin so (P6).
func (r *Replica) Digest(prefix string) api.Digest {
	return digest.Of(r.made().book.Registers(prefix))
}
