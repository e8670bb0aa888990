package link

import (
	"bytes"
	"math"
	"runtime"
	"slices"
	"strings"
	"testing"
	"time"
)

// talker answers with the frames it has left, one by one, and keeps what it was told.
type talker struct{ left, told []string }

func (k *talker) answer(frame []byte) []byte {
	k.told = append(k.told, string(frame))
	if len(k.left) == 0 {
		return nil
	}
	first := k.left[0]
	k.left = k.left[1:]
	return []byte(first)
}

func TestCarry(t *testing.T) {
	all := []string{"a", "bc", "def", "g", strings.Repeat("h", 5000)}
	for most := -2; most <= 8; most++ {
		far, near := &talker{left: []string{all[1], all[3]}}, &talker{left: []string{all[2], all[4]}}
		frames, size := Carry([]byte(all[0]), most, far.answer, near.answer)
		n := most
		if most < 0 || most > len(all) {
			n = len(all)
		}
		var toFar, toNear []string
		for i, frame := range all[:n] {
			if i%2 == 0 {
				toFar = append(toFar, frame)
			} else {
				toNear = append(toNear, frame)
			}
		}
		if frames != n || size != len(strings.Join(all[:n], "")) {
			t.Errorf("P7: most %d: %d frames, %d bytes, want %d", most, frames, size, n)
		}
		if !slices.Equal(far.told, toFar) || !slices.Equal(near.told, toNear) {
			t.Errorf("P7: most %d: to the far end %.20q, to the near one %.20q, want %.20q, %.20q", most, far.told, near.told, toFar, toNear)
		}
	}
}

// An answer that has no byte is no frame.
func TestCarryEndsWithNothingToTell(t *testing.T) {
	for _, most := range []int{0, 1, 2, -1, math.MinInt, math.MaxInt} {
		for _, none := range [][]byte{nil, {}} {
			far, near := &talker{}, &talker{}
			if frames, size := Carry(none, most, far.answer, near.answer); frames != 0 || size != 0 || far.told != nil || near.told != nil {
				t.Errorf("P7: %d frames, %d bytes, %q, %q, want none", frames, size, far.told, near.told)
			}
			far = &talker{left: []string{string(none), "never"}}
			frames, size := Carry([]byte("one"), most, far.answer, near.answer)
			if want := min(1, uint(most)); frames != int(want) || size != 3*frames || len(far.told) != frames || near.told != nil {
				t.Errorf("P7: most %d: %d frames, %d bytes, want %d", most, frames, size, want)
			}
		}
	}
}

// Nothing changes a frame on its way, and the two ends are never at work at once.
func TestCarryOneAtATime(t *testing.T) {
	const rounds = 1000
	count := 0 // no lock: the race detector sees it if the ends share it at one time
	answer := func(frame []byte) []byte {
		count++
		if len(frame) != count || len(bytes.Trim(frame, "x")) != 0 {
			t.Errorf("P7: frame %d is %.20q", count, frame)
		}
		return bytes.Repeat([]byte("x"), len(frame)+1)
	}
	if frames, size := Carry([]byte("x"), rounds, answer, answer); frames != rounds || count != rounds || size != rounds*(rounds+1)/2 {
		t.Errorf("P7: %d frames, %d told, %d bytes", frames, count, size)
	}
}

func TestCarryLeavesNothingAtWork(t *testing.T) {
	was := runtime.NumGoroutine()
	for most := range 300 {
		far, near := &talker{left: []string{"b", "d"}}, &talker{left: []string{"c"}}
		Carry([]byte("a"), most%6-1, far.answer, near.answer)
	}
	// One that is joined may still be on its last step out.
	for range 100 {
		if runtime.NumGoroutine() <= was {
			return
		}
		time.Sleep(10 * time.Millisecond)
	}
	t.Errorf("P7: %d goroutines, %d ahead of the sessions", runtime.NumGoroutine(), was)
}
