// Package link carries frames between two ends, one at a time, until it breaks or an end has no more to tell.
package link

import "sync"

// Answer takes a frame in and tells the frame that goes back; an empty one, if there is no more to tell.
type Answer func(frame []byte) []byte

// listen answers what comes in until the link is closed.
func listen(in <-chan []byte, answer Answer, out chan<- []byte) {
	for frame := range in {
		out <- answer(frame)
	}
}

// Carry carries a frame to the far end, what it answers to the near one, and so on; most is how many are carried (below 0: all). It tells how many were, and their bytes.
func Carry(frame []byte, most int, far, near Answer) (frames, size int) {
	var ends [2]chan []byte
	var joined sync.WaitGroup
	answers := make(chan []byte)
	for i, answer := range [2]Answer{far, near} {
		in := make(chan []byte)
		ends[i] = in
		joined.Add(1)
		go func() {
			defer joined.Done()
			listen(in, answer, answers)
		}()
	}
	for len(frame) > 0 && frames != most {
		ends[frames%2] <- frame
		frames++
		size += len(frame)
		// Waited for even if it is not carried any more: an end that breaks off must not be left at work.
		frame = <-answers
	}
	for _, in := range ends {
		close(in)
	}
	joined.Wait()
	return frames, size
}
