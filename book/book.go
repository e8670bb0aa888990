// Package book keeps registers, one of each key, and knows which of them win and which are seen.
package book

import (
	"cmp"
	"iter"
	"math"
	"slices"
	"strings"

	"contacts/api"
)

// contact is a contact's registers by field; its deletion, which has no field, stands under "".
type contact map[string]api.Register

// Book is registers, one of each key; its zero value is an empty one.
type Book struct{ contacts map[string]contact }

// Later: was a written behind b?
func Later(a, b api.Stamp) bool {
	if a.Counter == b.Counter {
		return a.Replica > b.Replica
	}
	return a.Counter > b.Counter
}

// Winner is the one of two registers of one key that stands.
func Winner(a, b api.Register) api.Register {
	if Later(a.Stamp, b.Stamp) {
		return a
	}
	// Replicas may share a number, so one stamp may stand on two values.
	if a.Stamp == b.Stamp && a.Value > b.Value {
		return a
	}
	return b
}

// Take takes a register in.
func (b *Book) Take(x api.Register) {
	old, there := b.contacts[x.Name][x.Field]
	if there && Winner(x, old) == old {
		return
	}
	if b.contacts == nil {
		b.contacts = map[string]contact{}
	}
	if b.contacts[x.Name] == nil {
		b.contacts[x.Name] = contact{}
	}
	b.contacts[x.Name][x.Field] = x
}

// Next is the counter of the stamp that is written next.
func (b *Book) Next() int {
	if len(b.contacts) == 0 {
		return 1
	}
	// Bytes from outside may tell a book whose counters are all below 0.
	greatest := math.MinInt
	for _, c := range b.contacts {
		for _, x := range c {
			greatest = max(greatest, x.Stamp.Counter)
		}
	}
	return greatest + 1
}

// seen goes over a contact's registers that are seen, in no order.
func (b *Book) seen(name string) iter.Seq[api.Register] {
	return func(yield func(api.Register) bool) {
		deletion, deleted := b.contacts[name][""]
		for _, x := range b.contacts[name] {
			// The deletion itself is left out too: no stamp is later than itself.
			if deleted && !Later(x.Stamp, deletion.Stamp) {
				continue
			}
			if !yield(x) {
				return
			}
		}
	}
}

// Shows: is anything of the contact seen?
func (b *Book) Shows(name string) bool {
	for range b.seen(name) {
		return true
	}
	return false
}

// Key closes a register's key with a nought byte, so that a prefix can stand for one key alone, and not for the longer ones.
func Key(x api.Register) string { return x.Name + "." + x.Field + "\x00" }

// beginning goes over the registers whose keys begin so, in no order.
func (b *Book) beginning(prefix string) iter.Seq[api.Register] {
	return func(yield func(api.Register) bool) {
		for _, c := range b.contacts {
			for _, x := range c {
				if strings.HasPrefix(Key(x), prefix) && !yield(x) {
					return
				}
			}
		}
	}
}

func inOrder(a, b api.Register) int {
	return cmp.Or(strings.Compare(a.Name, b.Name), strings.Compare(a.Field, b.Field))
}

// sorted gathers all ahead of the first one told: who is told may edit the book.
func sorted(registers iter.Seq[api.Register]) iter.Seq[api.Register] {
	return func(yield func(api.Register) bool) {
		for _, x := range slices.SortedFunc(registers, inOrder) {
			if !yield(x) {
				return
			}
		}
	}
}

// Seen goes over a contact's registers that are seen, by field.
func (b *Book) Seen(name string) iter.Seq[api.Register] { return sorted(b.seen(name)) }

// Registers goes over the registers whose keys, a nought byte behind each, begin so: by name, then by field.
func (b *Book) Registers(prefix string) iter.Seq[api.Register] { return sorted(b.beginning(prefix)) }

// Names is the names of the contacts that show and begin so, in order.
func (b *Book) Names(prefix string) []string {
	var names []string
	for name := range b.contacts {
		if strings.HasPrefix(name, prefix) && b.Shows(name) {
			names = append(names, name)
		}
	}
	slices.Sort(names)
	return names
}
