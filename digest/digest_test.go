package digest

import (
	"encoding/hex"
	"hash/fnv"
	"math"
	"slices"
	"strings"
	"testing"

	"contacts/api"
)

func register(name, field string, counter, replica int, value string) api.Register {
	return api.Register{Name: name, Field: field, Stamp: api.Stamp{Counter: counter, Replica: replica}, Value: value}
}

func of(registers ...api.Register) api.Digest { return Of(slices.Values(registers)) }

// hashed is the library's hash of a text.
func hashed(text string) api.Digest {
	h := fnv.New64a()
	h.Write([]byte(text))
	return api.Digest(h.Sum(nil))
}

func TestExamples(t *testing.T) {
	ann, bob, gone := register("ann", "tel", 1, 1, "5"), register("bob", "town", 2, 1, "Oslo"), register("ann", "", 2, 1, "")
	for _, c := range []struct {
		registers []api.Register
		want      string
	}{
		{nil, "cbf29ce484222325"},
		{[]api.Register{ann}, "c66462c9e304fed7"},
		{[]api.Register{ann, bob}, "9709c188c4b3613a"},
		{[]api.Register{bob}, "7f6635496167b970"},
		{[]api.Register{gone, ann}, "27c1e971ea5af45f"},
	} {
		d := of(c.registers...)
		if got := hex.EncodeToString(d[:]); got != c.want {
			t.Errorf("P6: of %v: %s, want %s", c.registers, got, c.want)
		}
	}
}

func TestTextOfOneRegister(t *testing.T) {
	for _, c := range []struct {
		x    api.Register
		text string
	}{
		{register("ann", "tel", 1, 1, "5"), "ann.tel 1 1 1 5\n"},
		{register("ann", "", 2, 1, ""), "ann. 2 1 0 \n"},
		{register("z", "y", 10, 0, ""), "z.y 10 0 0 \n"},
		{register("eightchr", "four", math.MaxInt, math.MaxInt, strings.Repeat("x", 20)), "eightchr.four 9223372036854775807 9223372036854775807 20 xxxxxxxxxxxxxxxxxxxx\n"},
		{register("a", "b", 1, -7, "-"), "a.b 1 -7 1 -\n"},
		{register("a", "b", 1, math.MinInt, "v"), "a.b 1 -9223372036854775808 1 v\n"},
		{register("a", "b", math.MinInt, -1, "v"), "a.b -9223372036854775808 -1 1 v\n"},
		{register("a", "b", 3, 2, "é"), "a.b 3 2 2 \xc3\xa9\n"},
		{register("a", "b", 3, 2, "\x00\xff\n \r"), "a.b 3 2 5 \x00\xff\n \r\n"},
	} {
		if got := of(c.x); got != hashed(c.text) {
			t.Errorf("P6: of %v: %x, want that of %q: %x", c.x, got, c.text, hashed(c.text))
		}
	}
}

func TestTextsFollowEachOther(t *testing.T) {
	got := of(register("a", "", 4, 2, ""), register("a", "b", 3, -2, "x y"), register("b", "c", 1, 1, "\n"))
	if want := hashed("a. 4 2 0 \na.b 3 -2 3 x y\nb.c 1 1 1 \n\n"); got != want {
		t.Errorf("P6: %x, want %x", got, want)
	}
}

// What differs in one place has another digest: no part of a register is left out.
func TestEveryPartCounts(t *testing.T) {
	l := []api.Register{
		register("ann", "tel", 1, 1, "5"),
		register("anna", "tel", 1, 1, "5"),
		register("ann", "te", 1, 1, "5"),
		register("ann", "", 1, 1, "5"),
		register("ann", "tel", 2, 1, "5"),
		register("ann", "tel", 1, 2, "5"),
		register("ann", "tel", 1, -1, "5"),
		register("ann", "tel", 11, 1, "5"),
		register("ann", "tel", 1, 11, "5"),
		register("ann", "tel", 1, 1, "6"),
		register("ann", "tel", 1, 1, ""),
		register("ann", "tel", 1, 1, "5\n"),
	}
	for i, a := range l {
		for j, b := range l {
			if (of(a) == of(b)) != (i == j) {
				t.Errorf("P6: %v and %v: %x, %x", a, b, of(a), of(b))
			}
		}
	}
}

func TestOrderCounts(t *testing.T) {
	a, b := register("a", "b", 1, 1, "x"), register("b", "b", 2, 1, "x")
	if of(a, b) == of(b, a) {
		t.Error("P6: the order does not show in the digest")
	}
}
