package book

import (
	"math"
	"slices"
	"testing"

	"contacts/api"
)

func register(name, field string, counter, replica int, value string) api.Register {
	return api.Register{Name: name, Field: field, Stamp: api.Stamp{Counter: counter, Replica: replica}, Value: value}
}

func bookOf(registers ...api.Register) *Book {
	b := &Book{}
	for _, x := range registers {
		b.Take(x)
	}
	return b
}

func values(b *Book, name string) []string {
	l := []string{}
	for x := range b.Seen(name) {
		l = append(l, x.Field, x.Value)
	}
	return l
}

func TestLater(t *testing.T) {
	rising := []api.Stamp{{Counter: math.MinInt, Replica: 9}, {Counter: 1, Replica: math.MinInt}, {Counter: 1, Replica: -1}, {Counter: 1, Replica: 0}, {Counter: 1, Replica: 7}, {Counter: 2, Replica: -7}, {Counter: 2, Replica: math.MaxInt}, {Counter: math.MaxInt, Replica: 0}}
	for i, a := range rising {
		for j, b := range rising {
			if Later(a, b) != (i > j) {
				t.Errorf("Words: Later(%v, %v) = %v", a, b, Later(a, b))
			}
		}
	}
}

// rising is registers of one key, each of which wins over those ahead of it.
func rising() []api.Register {
	return []api.Register{
		register("ann", "tel", 1, 1, "z"),
		register("ann", "tel", 1, 2, ""),
		register("ann", "tel", 1, 2, "5"),
		register("ann", "tel", 1, 2, "50"),
		register("ann", "tel", 1, 2, "6"),
		register("ann", "tel", 1, 2, "\xff"),
		register("ann", "tel", 2, -1, "a"),
		register("ann", "tel", 3, -2, "a"),
	}
}

func TestWinner(t *testing.T) {
	l := rising()
	for i, a := range l {
		for j, b := range l {
			if w := Winner(a, b); w != l[max(i, j)] {
				t.Errorf("Words: Winner(%v, %v) = %v", a, b, w)
			}
		}
	}
}

func TestTakeKeepsTheWinnerInAnyOrder(t *testing.T) {
	l := rising()
	for i, a := range l {
		for j, b := range l {
			book := bookOf(a, b)
			want := l[max(i, j)]
			if got := slices.Collect(book.Seen("ann")); len(got) != 1 || got[0] != want {
				t.Errorf("P3: %v, then %v: %v, want %v", a, b, got, want)
			}
		}
	}
}

func TestTakeKeepsKeysApart(t *testing.T) {
	b := bookOf(register("an", "n", 1, 1, "1"), register("ann", "n", 1, 1, "2"), register("ann", "a", 1, 1, "3"))
	if l := values(b, "an"); !slices.Equal(l, []string{"n", "1"}) {
		t.Errorf("P3: an: %q", l)
	}
	if l := values(b, "ann"); !slices.Equal(l, []string{"a", "3", "n", "2"}) {
		t.Errorf("P3: ann: %q", l)
	}
}

func TestNext(t *testing.T) {
	for _, c := range []struct {
		b    *Book
		want int
	}{
		{&Book{}, 1},
		{bookOf(register("a", "t", 1, 5, "")), 2},
		{bookOf(register("a", "t", 7, 5, ""), register("b", "t", 3, 9, "")), 8},
		{bookOf(register("a", "t", 3, 5, ""), register("a", "", 9, 5, "")), 10},
		{bookOf(register("a", "t", 9, 5, ""), register("a", "", 3, 5, "")), 10},
		{bookOf(register("a", "t", 4, 5, ""), register("a", "t", 2, 5, "")), 5},
		{bookOf(register("a", "t", -4, 5, ""), register("b", "t", -7, 5, "")), -3},
	} {
		if n := c.b.Next(); n != c.want {
			t.Errorf("P3: Next of %v = %d, want %d", c.b, n, c.want)
		}
	}
}

func TestSeenAgainstDeletion(t *testing.T) {
	field := register("ann", "tel", 5, 5, "v")
	for _, c := range []struct {
		counter, replica int
		seen             bool
	}{{4, 9, true}, {5, 4, true}, {5, 5, false}, {5, 6, false}, {6, 1, false}} {
		deletion := register("ann", "", c.counter, c.replica, "")
		for _, b := range []*Book{bookOf(field, deletion), bookOf(deletion, field)} {
			want, names := []string{}, []string{}
			if c.seen {
				want, names = []string{"tel", "v"}, []string{"ann"}
			}
			if l := values(b, "ann"); !slices.Equal(l, want) {
				t.Errorf("P4: deletion %v: %q, want %q", deletion.Stamp, l, want)
			}
			if l := b.Names(""); !slices.Equal(l, names) || b.Shows("ann") != c.seen {
				t.Errorf("P4: deletion %v: names %q, want %q", deletion.Stamp, l, names)
			}
		}
	}
}

func TestSeenByFieldEach(t *testing.T) {
	b := bookOf(register("ann", "tel", 1, 1, "old"), register("ann", "mail", 4, 1, "new"), register("ann", "a", 3, 1, "old"), register("ann", "z", 5, 1, ""), register("ann", "", 3, 1, ""))
	if l := values(b, "ann"); !slices.Equal(l, []string{"mail", "new", "z", ""}) {
		t.Errorf("P4: %q", l)
	}
}

func TestDeletionAloneShowsNothing(t *testing.T) {
	b := bookOf(register("ann", "", 3, 1, ""))
	if l := values(b, "ann"); len(l) != 0 || b.Shows("ann") || len(b.Names("")) != 0 {
		t.Errorf("P4: a deletion alone: %q, %q", l, b.Names(""))
	}
}

func TestNamesInOrderByPrefix(t *testing.T) {
	b := &Book{}
	for _, name := range []string{"bob", "ann", "zoe", "an", "anna", "b", "eightchr"} {
		b.Take(register(name, "t", 1, 1, ""))
	}
	for _, c := range []struct {
		prefix string
		want   []string
	}{
		{"", []string{"an", "ann", "anna", "b", "bob", "eightchr", "zoe"}}, {"a", []string{"an", "ann", "anna"}}, {"ann", []string{"ann", "anna"}}, {"anna", []string{"anna"}}, {"annas", nil}, {"nn", nil}, {"eightchr", []string{"eightchr"}}, {"eightchrs", nil}, {"A", nil}, {"an.", nil}, {"\x00", nil}, {"\xff", nil},
	} {
		if l := b.Names(c.prefix); !slices.Equal(l, c.want) {
			t.Errorf("P4: Names(%q) = %q, want %q", c.prefix, l, c.want)
		}
	}
}

// mixed is a book whose keys stand in each other's way, and its registers in order.
func mixed() (*Book, []api.Register) {
	l := []api.Register{
		register("an", "n", 4, 1, ""),
		register("an", "nt", 5, 1, "5"),
		register("ann", "", 6, -1, ""),
		register("ann", "a", 1, 1, "x"),
		register("ann", "tel", 9, 1, "y"),
		register("ann", "tell", 2, 3, "z"),
		register("anna", "", 7, 1, ""),
		register("b", "z", 8, 1, "\n"),
		register("ba", "a", 3, 1, "\x00"),
	}
	return bookOf(l[5], l[0], l[8], l[2], l[7], l[4], l[1], l[6], l[3]), l
}

func TestRegistersInOrder(t *testing.T) {
	b, want := mixed()
	for range 20 {
		if l := slices.Collect(b.Registers("")); !slices.Equal(l, want) {
			t.Fatalf("P5: %v, want %v", l, want)
		}
	}
}

func TestRegistersByPrefix(t *testing.T) {
	b, l := mixed()
	for _, c := range []struct {
		prefix   string
		from, to int
	}{
		{"a", 0, 7}, {"an", 0, 7}, {"ann", 2, 7}, {"anna", 6, 7}, {"annas", 0, 0}, {"n", 0, 0},
		{"an.", 0, 2}, {"an.n", 0, 2}, {"an.n\x00", 0, 1}, {"an.nt", 1, 2}, {"an.nt\x00", 1, 2}, {"an.nt\x00\x00", 0, 0}, {"an.nt\x00t", 0, 0},
		{"ann.", 2, 6}, {"ann.\x00", 2, 3}, {"ann.tel", 4, 6}, {"ann.tel\x00", 4, 5}, {"ann.tell", 5, 6}, {"ann.tells", 0, 0},
		{"ann\x00", 0, 0}, {"\x00", 0, 0}, {".", 0, 0}, {"..", 0, 0}, {"ann..", 0, 0}, {"b", 7, 9}, {"b.", 7, 8}, {"ba", 8, 9}, {"B", 0, 0}, {" ", 0, 0}, {"\xff", 0, 0}, {"anna.\x00", 6, 7}, {"anna.", 6, 7},
	} {
		if got := slices.Collect(b.Registers(c.prefix)); !slices.Equal(got, l[c.from:c.to]) {
			t.Errorf("P6: Registers(%q): %v, want %v", c.prefix, got, l[c.from:c.to])
		}
	}
}

func TestRegistersOfAnEmptyBook(t *testing.T) {
	for _, prefix := range []string{"", "a", "\x00"} {
		for x := range new(Book).Registers(prefix) {
			t.Errorf("P5: %v in an empty book", x)
		}
	}
}

// Keys stand in the order of their registers, and none begins with another.
func TestKey(t *testing.T) {
	keys := []string{}
	for x := range bookOf(register("an", "t", 1, 1, ""), register("ann", "", 1, 1, ""), register("ann", "t", 1, 1, ""), register("ann", "te", 1, 1, ""), register("a", "zzzz", 1, 1, "")).Registers("") {
		keys = append(keys, Key(x))
	}
	if want := []string{"a.zzzz\x00", "an.t\x00", "ann.\x00", "ann.t\x00", "ann.te\x00"}; !slices.Equal(keys, want) || !slices.IsSorted(keys) {
		t.Errorf("P6: %q, want %q", keys, want)
	}
}
