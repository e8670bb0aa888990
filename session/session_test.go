package session

import (
	"bytes"
	"math"
	"slices"
	"strings"
	"testing"

	"contacts/api"
	"contacts/book"
	"contacts/digest"
	"contacts/wire"
)

func register(name, field string, counter, replica int, value string) api.Register {
	return api.Register{Name: name, Field: field, Stamp: api.Stamp{Counter: counter, Replica: replica}, Value: value}
}

func bookOf(registers ...api.Register) *book.Book {
	b := &book.Book{}
	for _, x := range registers {
		b.Take(x)
	}
	return b
}

func all(b *book.Book) []api.Register { return slices.Collect(b.Registers("")) }

// some are registers in order, of names and fields that begin alike, deletions among them.
func some() []api.Register {
	return []api.Register{
		register("a", "", 4, 1, ""),
		register("a", "t", 1, 1, "1"),
		register("a", "tel", 2, 1, "2"),
		register("a", "town", 3, 2, ""),
		register("ab", "t", math.MaxInt, math.MinInt, "\x00\xff"),
		register("abcdefgh", "", -1, 0, ""),
		register("abcdefgh", "mail", 9, 9, strings.Repeat("v", 20)),
		register("abcdefgh", "main", 9, 9, "m"),
		register("b", "t", 5, 1, "5"),
		register("z", "zzzz", 6, 1, "6"),
	}
}

func of(registers ...api.Register) api.Digest { return digest.Of(slices.Values(registers)) }

func sameFrame(a, b frame) bool {
	return slices.Equal(a.registers, b.registers) && slices.EqualFunc(a.parts, b.parts, func(p, q part) bool {
		return p.prefix == q.prefix && slices.Equal(p.branches, q.branches)
	})
}

func frames() []frame {
	d := api.Digest{1, 2, 3, 4, 5, 6, 7, 8}
	return []frame{
		{registers: some()},
		{parts: []part{{}}},
		{parts: []part{{"", []branch{{"", d}}}}},
		{some()[:3], []part{{"a", nil}, {"ab.", []branch{{"t\x00", d}, {"u", api.Digest{}}}}, {"\x00\xff", nil}}},
		{nil, slices.Repeat([]part{{"abcdefgh.mai", slices.Repeat([]branch{{"l\x00", d}}, 100)}}, 100)},
	}
}

func TestFramesAreReadAsTheyWereWritten(t *testing.T) {
	for _, f := range frames() {
		data := f.bytes()
		if len(data) == 0 || !sameFrame(read(data), f) {
			t.Errorf("P7: %v, want %v", read(data), f)
		}
	}
	if data := (frame{}).bytes(); len(data) != 0 {
		t.Errorf("P7: a frame of nothing: %x", data)
	}
}

func TestFramesThatAreNone(t *testing.T) {
	for _, f := range frames() {
		data := f.bytes()
		for cut := range min(len(data), 2000) {
			if x := read(data[:cut]); !sameFrame(x, frame{}) {
				t.Fatalf("P7: cut at %d of %d: %v", cut, len(data), x)
			}
		}
		if x := read(append(slices.Clone(data), 0)); !sameFrame(x, frame{}) {
			t.Errorf("P7: a byte too many: %v", x)
		}
	}
}

func TestBelow(t *testing.T) {
	l := some()
	s := New(bookOf(l...))
	prefixes := []string{"", "a", "a.", "a.\x00", "a.t", "a.t\x00", "a.te", "ab", "abc", "abcdefgh.mai", "abcdefgh.mail\x00", "abd", "b", "c", "z.zzzz\x00", "z.zzzz\x00x", "zz", "\x00", ".", "A", "{", "\xff"}
	for _, prefix := range prefixes {
		var want []api.Register
		for _, x := range l {
			if strings.HasPrefix(x.Name+"."+x.Field+"\x00", prefix) {
				want = append(want, x)
			}
		}
		if got := s.below(prefix); !slices.Equal(got, want) {
			t.Errorf("P8: below %q: %v, want %v", prefix, got, want)
		}
		if s.digest(prefix) != of(want...) {
			t.Errorf("P8: the digest below %q is not that of P6", prefix)
		}
		if got := New(&book.Book{}).below(prefix); len(got) != 0 {
			t.Errorf("P8: below %q of no register: %v", prefix, got)
		}
	}
}

func TestBranches(t *testing.T) {
	l := some()
	for _, c := range []struct {
		registers []api.Register
		prefix    string
		want      []branch
	}{
		{l, "", []branch{{"a", of(l[:8]...)}, {"b", of(l[8])}, {"z", of(l[9])}}},
		{l[:8], "a", []branch{{".", of(l[:4]...)}, {"b", of(l[4:8]...)}}},
		{l[:4], "a.", []branch{{"\x00", of(l[0])}, {"t", of(l[1:4]...)}}},
		{l[1:4], "a.t", []branch{{"\x00", of(l[1])}, {"e", of(l[2])}, {"o", of(l[3])}}},
		{l[:2], "", []branch{{"a.\x00", of(l[0])}, {"a.t", of(l[1])}}},
		{l[5:8], "abc", []branch{{"defgh.\x00", of(l[5])}, {"defgh.m", of(l[6:8]...)}}},
		{l[6:8], "", []branch{{"abcdefgh.mail", of(l[6])}, {"abcdefgh.main", of(l[7])}}},
	} {
		if got := branches(c.registers, c.prefix); !slices.Equal(got, c.want) {
			t.Errorf("P8: below %q: %q, want %q", c.prefix, got, c.want)
		}
	}
}

func TestBegin(t *testing.T) {
	for _, l := range [][]api.Register{nil, some()[:1], some()} {
		s := New(bookOf(l...))
		if f := read(s.Begin(false)); !sameFrame(f, frame{parts: []part{{"", []branch{{"", of(l...)}}}}}) {
			t.Errorf("P8: the first frame tells %v, want the digest of all", f)
		}
		if f := read(s.Begin(true)); !sameFrame(f, frame{registers: l, parts: []part{{}}}) {
			t.Errorf("P8: the first frame of a scrub tells %v, want all", f)
		}
	}
}

func TestAnswer(t *testing.T) {
	l := some()
	d := api.Digest{}
	for i, c := range []struct{ told, want frame }{
		{frame{}, frame{}},
		{frame{registers: []api.Register{register("c", "t", 1, 1, "c")}}, frame{}},
		{frame{parts: []part{{}}}, frame{registers: l}},
		{frame{parts: []part{{prefix: "b"}, {prefix: "a.t\x00"}, {prefix: "q"}}}, frame{registers: []api.Register{l[8], l[1]}}},
		{frame{parts: []part{{"", []branch{{"", of(l...)}}}}}, frame{}},
		{frame{parts: []part{{"", []branch{{"a", of(l[:8]...)}}}}}, frame{registers: l[8:]}},
		{frame{parts: []part{{"", []branch{{"a", of(l[:8]...)}, {"b", of(l[8])}, {"z", of(l[9])}}}}}, frame{}},
		{frame{parts: []part{{"z", []branch{{"", of(l[9])}}}}}, frame{}},
		{frame{parts: []part{{"", []branch{{"", d}}}}}, frame{parts: []part{{"", branches(l, "")}}}},
		{frame{parts: []part{{"", []branch{{"a", d}, {"b", of(l[8])}, {"c", d}, {"z", d}}}}}, frame{l[9:], []part{{"a", branches(l[:8], "a")}, {prefix: "c"}, {prefix: "z"}}}},
		{frame{parts: []part{{"a", []branch{{".", d}}}}}, frame{slices.Concat(l[4:8], l[:4]), []part{{prefix: "a."}}}},
	} {
		s := New(bookOf(l...))
		if got := read(s.Answer(c.told.bytes())); !sameFrame(got, c.want) {
			t.Errorf("P8: %d: %v is answered by %v, want %v", i, c.told, got, c.want)
		}
		if want := all(bookOf(slices.Concat(l, c.told.registers)...)); !slices.Equal(all(s.book), want) {
			t.Errorf("P7: %d: behind %v it holds %v, want %v", i, c.told, all(s.book), want)
		}
	}
}

func TestAnswerTakesInWhatWins(t *testing.T) {
	for _, c := range []struct {
		told  api.Register
		taken bool
	}{
		{register("a", "t", 2, 0, ""), true},
		{register("a", "t", 1, 2, ""), true},
		{register("a", "t", 1, 1, "2"), true},
		{register("a", "t", 1, 1, "0"), false},
		{register("a", "t", 1, 0, "2"), false},
		{register("a", "t", 0, 9, "2"), false},
	} {
		s := New(bookOf(some()...))
		if back := s.Answer(frame{registers: []api.Register{c.told}}.bytes()); len(back) != 0 {
			t.Errorf("P7: %v is answered by %x", c.told, back)
		}
		if taken := slices.Contains(all(s.book), c.told); taken != c.taken || len(all(s.book)) != len(some()) {
			t.Errorf("P7: %v: taken in: %v", c.told, taken)
		}
	}
}

// Digests stay those of what one side held alone, whatever it is told meanwhile.
func TestDigestsAreOfWhatWasHeldAtFirst(t *testing.T) {
	s := New(bookOf(some()...))
	was := s.Begin(false)
	s.Answer(frame{registers: []api.Register{register("a", "t", 99, 1, "new"), register("q", "t", 99, 1, "new")}}.bytes())
	if !bytes.Equal(s.Begin(false), was) {
		t.Error("P8: digests are of registers of both sides")
	}
}

// anyBytes checks that bytes are taken, whatever they are, and that those that are no frame change nothing.
func anyBytes(t *testing.T, data []byte) {
	t.Helper()
	was := slices.Clone(data)
	s := New(bookOf(some()...))
	back := s.Answer(data)
	if !bytes.Equal(data, was) {
		t.Fatalf("P1: the frame %x is changed", was)
	}
	f := read(data)
	if len(f.registers) == 0 && !slices.Equal(all(s.book), some()) || sameFrame(f, frame{}) && len(back) != 0 {
		t.Fatalf("P7: %x: it holds %v and answers %x", data, all(s.book), back)
	}
}

func TestAnswerToAnyBytes(t *testing.T) {
	anyBytes(t, nil)
	for a := range 256 {
		anyBytes(t, []byte{byte(a)})
		for b := range 256 {
			anyBytes(t, []byte{byte(a), byte(b)})
			anyBytes(t, []byte{0, 2, byte(a), byte(b)})
		}
		for _, n := range []int{3, 10, 100, 10000} {
			anyBytes(t, bytes.Repeat([]byte{byte(a)}, n))
		}
	}
	for _, f := range frames()[:4] {
		data := f.bytes()
		for i := range data {
			for bit := range 8 {
				data[i] ^= 1 << bit
				anyBytes(t, data)
				data[i] ^= 1 << bit
			}
		}
	}
}

func FuzzAnswer(f *testing.F) {
	for _, x := range frames() {
		f.Add(x.bytes())
	}
	var w wire.Writer
	w.Number(math.MaxInt)
	f.Add(w.Bytes())
	f.Fuzz(anyBytes)
}
