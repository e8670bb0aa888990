package contacts

import (
	"contacts/api"
	"contacts/link"
	"contacts/session"
)

// begin counts a session with a replica of that number, and says whether it is a scrub.
func (r *Replica) begin(id int) (scrub bool) {
	if r.begun == nil {
		r.begun = map[int]int{}
	}
	r.begun[id]++
	if r.begun[id] < api.Scrub {
		return false
	}
	delete(r.begun, id)
	return true
}

// limit is how many frames are carried; below 0: all.
func limit(most []int) int {
	if len(most) == 0 {
		return -1
	}
	return most[0]
}

// Sync begins a session with another replica (P7, P8); most: how many frames are carried; it tells how many were, and their bytes.
func (r *Replica) Sync(other *Replica, most ...int) (frames, size int) {
	if r == nil || other == nil || r == other {
		return 0, 0
	}
	near, far := session.New(&r.book), session.New(&other.book)
	return link.Carry(near.Begin(r.begin(other.id)), limit(most), far.Answer, near.Answer)
}
