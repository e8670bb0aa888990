package book

import (
	"math"
	"slices"
	"testing"

	"contacts/api"
)

func register(name, field string, counter, replica int, value string) api.Register {
	return api.Register{Name: name, Field: field, Stamp: api.Stamp{Counter: counter, Replica: replica}, Value: value}
}

func bookOf(registers ...api.Register) *Book {
	b := &Book{}
	for _, x := range registers {
		b.Take(x)
	}
	return b
}

func values(b *Book, name string) []string {
	l := []string{}
	for x := range b.Seen(name) {
		l = append(l, x.Field, x.Value)
	}
	return l
}

func TestLater(t *testing.T) {
	rising := []api.Stamp{{Counter: math.MinInt, Replica: 9}, {Counter: 1, Replica: math.MinInt}, {Counter: 1, Replica: -1}, {Counter: 1, Replica: 0}, {Counter: 1, Replica: 7}, {Counter: 2, Replica: -7}, {Counter: 2, Replica: math.MaxInt}, {Counter: math.MaxInt, Replica: 0}}
	for i, a := range rising {
		for j, b := range rising {
			if Later(a, b) != (i > j) {
				t.Errorf("Words: Later(%v, %v) = %v", a, b, Later(a, b))
			}
		}
	}
}

// rising is registers of one key, each of which wins over those ahead of it.
func rising() []api.Register {
	return []api.Register{
		register("ann", "tel", 1, 1, "z"),
		register("ann", "tel", 1, 2, ""),
		register("ann", "tel", 1, 2, "5"),
		register("ann", "tel", 1, 2, "50"),
		register("ann", "tel", 1, 2, "6"),
		register("ann", "tel", 1, 2, "\xff"),
		register("ann", "tel", 2, -1, "a"),
		register("ann", "tel", 3, -2, "a"),
	}
}

func TestWinner(t *testing.T) {
	l := rising()
	for i, a := range l {
		for j, b := range l {
			if w := Winner(a, b); w != l[max(i, j)] {
				t.Errorf("Words: Winner(%v, %v) = %v", a, b, w)
			}
		}
	}
}

func TestTakeKeepsTheWinnerInAnyOrder(t *testing.T) {
	l := rising()
	for i, a := range l {
		for j, b := range l {
			book := bookOf(a, b)
			want := l[max(i, j)]
			if got := slices.Collect(book.Seen("ann")); len(got) != 1 || got[0] != want {
				t.Errorf("P3: %v, then %v: %v, want %v", a, b, got, want)
			}
		}
	}
}

func TestTakeKeepsKeysApart(t *testing.T) {
	b := bookOf(register("an", "n", 1, 1, "1"), register("ann", "n", 1, 1, "2"), register("ann", "a", 1, 1, "3"))
	if l := values(b, "an"); !slices.Equal(l, []string{"n", "1"}) {
		t.Errorf("P3: an: %q", l)
	}
	if l := values(b, "ann"); !slices.Equal(l, []string{"a", "3", "n", "2"}) {
		t.Errorf("P3: ann: %q", l)
	}
}

func TestNext(t *testing.T) {
	for _, c := range []struct {
		b    *Book
		want int
	}{
		{&Book{}, 1},
		{bookOf(register("a", "t", 1, 5, "")), 2},
		{bookOf(register("a", "t", 7, 5, ""), register("b", "t", 3, 9, "")), 8},
		{bookOf(register("a", "t", 3, 5, ""), register("a", "", 9, 5, "")), 10},
		{bookOf(register("a", "t", 9, 5, ""), register("a", "", 3, 5, "")), 10},
		{bookOf(register("a", "t", 4, 5, ""), register("a", "t", 2, 5, "")), 5},
	} {
		if n := c.b.Next(); n != c.want {
			t.Errorf("P3: Next of %v = %d, want %d", c.b, n, c.want)
		}
	}
}

func TestSeenAgainstDeletion(t *testing.T) {
	field := register("ann", "tel", 5, 5, "v")
	for _, c := range []struct {
		counter, replica int
		seen             bool
	}{{4, 9, true}, {5, 4, true}, {5, 5, false}, {5, 6, false}, {6, 1, false}} {
		deletion := register("ann", "", c.counter, c.replica, "")
		for _, b := range []*Book{bookOf(field, deletion), bookOf(deletion, field)} {
			want, names := []string{}, []string{}
			if c.seen {
				want, names = []string{"tel", "v"}, []string{"ann"}
			}
			if l := values(b, "ann"); !slices.Equal(l, want) {
				t.Errorf("P4: deletion %v: %q, want %q", deletion.Stamp, l, want)
			}
			if l := b.Names(""); !slices.Equal(l, names) || b.Shows("ann") != c.seen {
				t.Errorf("P4: deletion %v: names %q, want %q", deletion.Stamp, l, names)
			}
		}
	}
}

func TestSeenByFieldEach(t *testing.T) {
	b := bookOf(register("ann", "tel", 1, 1, "old"), register("ann", "mail", 4, 1, "new"), register("ann", "a", 3, 1, "old"), register("ann", "z", 5, 1, ""), register("ann", "", 3, 1, ""))
	if l := values(b, "ann"); !slices.Equal(l, []string{"mail", "new", "z", ""}) {
		t.Errorf("P4: %q", l)
	}
}

func TestDeletionAloneShowsNothing(t *testing.T) {
	b := bookOf(register("ann", "", 3, 1, ""))
	if l := values(b, "ann"); len(l) != 0 || b.Shows("ann") || len(b.Names("")) != 0 {
		t.Errorf("P4: a deletion alone: %q, %q", l, b.Names(""))
	}
}

func TestNamesInOrderByPrefix(t *testing.T) {
	b := &Book{}
	for _, name := range []string{"bob", "ann", "zoe", "an", "anna", "b", "eightchr"} {
		b.Take(register(name, "t", 1, 1, ""))
	}
	for _, c := range []struct {
		prefix string
		want   []string
	}{
		{"", []string{"an", "ann", "anna", "b", "bob", "eightchr", "zoe"}}, {"a", []string{"an", "ann", "anna"}}, {"ann", []string{"ann", "anna"}}, {"anna", []string{"anna"}}, {"annas", nil}, {"nn", nil}, {"eightchr", []string{"eightchr"}}, {"eightchrs", nil}, {"A", nil}, {"an.", nil}, {"\x00", nil}, {"\xff", nil},
	} {
		if l := b.Names(c.prefix); !slices.Equal(l, c.want) {
			t.Errorf("P4: Names(%q) = %q, want %q", c.prefix, l, c.want)
		}
	}
}
