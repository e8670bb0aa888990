package wire

import (
	"bytes"
	"math"
	"slices"
	"strings"
	"testing"

	"contacts/api"
)

func numbers() []int {
	l := []int{math.MaxInt, math.MinInt, math.MinInt + 1}
	for shift := range 63 {
		for _, near := range []int{-1, 0, 1} {
			l = append(l, 1<<shift+near, -(1<<shift)+near)
		}
	}
	return l
}

func texts() []string {
	return []string{"", "a", "\x00", "\x80\xff", "ann.tel\n", "é", strings.Repeat("x", 20), strings.Repeat("\xff", 300)}
}

func registers() []api.Register {
	return []api.Register{
		{},
		{Name: "ann", Field: "tel", Stamp: api.Stamp{Counter: 1, Replica: 2}, Value: "5"},
		{Name: "ann", Stamp: api.Stamp{Counter: math.MaxInt, Replica: math.MinInt}},
		{Name: "eightchr", Field: "four", Stamp: api.Stamp{Counter: -1, Replica: -300}, Value: strings.Repeat("\xff", 20)},
	}
}

// same checks that what was written is read again, from just so many bytes: from fewer, or with one more behind, it is not whole.
func same[T comparable](t *testing.T, x T, write func(*Writer, T), read func(*Reader) T) {
	t.Helper()
	var w Writer
	write(&w, x)
	data := bytes.Clone(w.Bytes())
	in := NewReader(w.Bytes())
	if y := read(in); y != x || !in.Whole() {
		t.Fatalf("%#v: read %#v, %v", x, y, in.Whole())
	}
	for n := range data {
		in := NewReader(data[:n])
		if read(in); in.Whole() {
			t.Fatalf("%#v: whole when cut to %d of %d bytes", x, n, len(data))
		}
	}
	in = NewReader(append(bytes.Clone(data), 0))
	if y := read(in); y != x || in.Whole() {
		t.Fatalf("%#v, and one byte: read %#v, %v", x, y, in.Whole())
	}
	if !bytes.Equal(w.Bytes(), data) {
		t.Fatalf("%#v: the reader changed the bytes", x)
	}
}

func TestNumbers(t *testing.T) {
	for _, n := range numbers() {
		same(t, n, (*Writer).Number, (*Reader).Number)
	}
}

func TestTexts(t *testing.T) {
	for _, s := range texts() {
		same(t, s, (*Writer).Text, (*Reader).Text)
	}
}

func TestRegisters(t *testing.T) {
	for _, x := range registers() {
		same(t, x, (*Writer).Register, (*Reader).Register)
	}
}

func TestDigests(t *testing.T) {
	for _, d := range []api.Digest{{}, {1, 2, 3, 4, 5, 6, 7, 8}, {0xff, 0x80, 0, 0, 0, 0, 0, 0xff}} {
		same(t, d, (*Writer).Digest, (*Reader).Digest)
	}
}

func TestNumbersNearNoughtAreShort(t *testing.T) {
	for n := -64; n < 64; n++ {
		var w Writer
		if w.Number(n); len(w.Bytes()) != 1 {
			t.Errorf("%d: %x", n, w.Bytes())
		}
	}
}

func TestLists(t *testing.T) {
	var w Writer
	WriteList(&w, numbers(), w.Number)
	WriteList(&w, nil, w.Digest)
	WriteList(&w, texts(), w.Text)
	WriteList(&w, registers(), w.Register)
	read := func(data []byte) bool {
		in := NewReader(data)
		ok := slices.Equal(ReadList(in, in.Number), numbers())
		ok = len(ReadList(in, in.Digest)) == 0 && ok
		ok = slices.Equal(ReadList(in, in.Text), texts()) && ok
		ok = slices.Equal(ReadList(in, in.Register), registers()) && ok
		return in.Whole() && ok
	}
	data := w.Bytes()
	if !read(data) {
		t.Error("lists are not read as they were written")
	}
	for n := range data {
		if read(data[:n]) {
			t.Fatalf("whole when cut to %d bytes", n)
		}
	}
}

func TestNothingWritten(t *testing.T) {
	var w Writer
	if len(w.Bytes()) != 0 || !NewReader(w.Bytes()).Whole() {
		t.Errorf("%x", w.Bytes())
	}
}

// Whatever the bytes, reading ends, and a list has no more items than bytes are there.
func TestBytesThatWereNeverWritten(t *testing.T) {
	var huge Writer
	huge.Number(math.MaxInt)
	var below Writer
	below.Number(-1)
	for _, data := range [][]byte{nil, huge.Bytes(), below.Bytes(), {more}, bytes.Repeat([]byte{more}, 30), bytes.Repeat([]byte{0xff}, 30)} {
		in := NewReader(data)
		if l := ReadList(in, in.Register); len(l) != 0 || in.Whole() {
			t.Errorf("%x: %d registers, %v", data, len(l), in.Whole())
		}
		in = NewReader(data)
		if s := in.Text(); s != "" || in.Whole() {
			t.Errorf("%x: text %q, %v", data, s, in.Whole())
		}
	}
	for n := range 30 {
		in := NewReader(bytes.Repeat([]byte{0xff}, n))
		if in.Number(); in.Whole() {
			t.Errorf("a number without end, of %d bytes, is whole", n)
		}
	}
}

// A list that says more than is left of the bytes must not take what stands there for its items.
func TestListThatSaysTooMuch(t *testing.T) {
	var w Writer
	w.Number(4)
	w.data = append(w.data, "abc"...)
	in := NewReader(w.Bytes())
	if s := in.Text(); s != "" || in.Whole() || in.Number() != 0 || in.Digest() != (api.Digest{}) {
		t.Errorf("%q, %v", s, in.Whole())
	}
}

func TestReadSharesNoMemory(t *testing.T) {
	var w Writer
	w.Register(registers()[1])
	w.Digest(api.Digest{7})
	in := NewReader(w.Bytes())
	x, d := in.Register(), in.Digest()
	clear(w.Bytes())
	if x != registers()[1] || d != (api.Digest{7}) {
		t.Errorf("%v, %v", x, d)
	}
}
