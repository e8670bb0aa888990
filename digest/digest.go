// Package digest works out what stands for a list of registers, so that two lists can be compared without being told.
package digest

import (
	"iter"
	"strconv"

	"contacts/api"
)

const (
	offset = 14695981039346656037
	prime  = 1099511628211
)

// hash is the FNV-1a hash of the text so far; its products are meant to wrap round.
type hash uint64

func (h hash) add(text string) hash {
	for i := range len(text) {
		h = (h ^ hash(text[i])) * prime
	}
	return h
}

func (h hash) digest() api.Digest {
	var d api.Digest
	for i := range d {
		d[i] = byte(h >> (8 * (len(d) - 1 - i)))
	}
	return d
}

// line tells how long the value is ahead of it: a value may hold blanks and line breaks, and still no two lists have one text.
func line(x api.Register) string {
	counter, replica := strconv.Itoa(x.Stamp.Counter), strconv.Itoa(x.Stamp.Replica)
	return x.Name + "." + x.Field + " " + counter + " " + replica + " " + strconv.Itoa(len(x.Value)) + " " + x.Value + "\n"
}

// Of is the digest of registers, told in the order in which they come.
func Of(registers iter.Seq[api.Register]) api.Digest {
	h := hash(offset)
	for x := range registers {
		h = h.add(line(x))
	}
	return h.digest()
}
