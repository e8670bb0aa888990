package contacts

import (
	"errors"
	"math"
	"reflect"
	"slices"
	"strings"
	"testing"

	"contacts/api"
)

// holding is a replica of that number with these registers in its book.
func holding(id int, registers ...api.Register) *Replica {
	r := New(id)
	for _, x := range registers {
		r.book.Take(x)
	}
	return r
}

func register(name, field string, counter, replica int, value string) api.Register {
	return api.Register{Name: name, Field: field, Stamp: api.Stamp{Counter: counter, Replica: replica}, Value: value}
}

func must(t *testing.T, err error) {
	t.Helper()
	if err != nil {
		t.Fatalf("refused: %v", err)
	}
}

func fields(r *Replica, name string) []string {
	l := []string{}
	for f, v := range r.Fields(name) {
		l = append(l, f, v)
	}
	return l
}

// refused checks that an error is a Fault of that kind, about that, and of no other kind.
func refused(t *testing.T, err error, kind api.Errno, what string) {
	t.Helper()
	var f *api.Fault
	if !errors.As(err, &f) || *f != (api.Fault{Kind: kind, What: what}) {
		t.Errorf("%v, want kind %d about %q", err, kind, what)
		return
	}
	for k := api.OK; k <= api.ErrBroken; k++ {
		if errors.Is(err, k) != (k == kind) {
			t.Errorf("errors.Is(%v, %d) = %v", err, k, k != kind)
		}
	}
}

func numbers() []int { return []int{0, 1, -1, 7, math.MaxInt, math.MinInt} }

// oddTexts are texts that are neither a name nor a field.
func oddTexts() []string {
	return []string{"", "ninechars", "Ann", "anN", "a1", "a n", " a", "a ", "a.", ".", "a\x00", "\x00", "`", "{", "a{", "\xe9", "é", "aé", "日本", "\xff\xfe", strings.Repeat("a", 1<<20)}
}

func TestNewIsEmpty(t *testing.T) {
	for _, id := range numbers() {
		r := New(id)
		if r == nil {
			t.Fatalf("P2: New(%d) is nil", id)
		}
		if len(r.Names("")) != 0 || len(fields(r, "ann")) != 0 || len(slices.Collect(r.Registers())) != 0 {
			t.Errorf("P2: New(%d) is not empty", id)
		}
	}
}

func TestNewMakesReplicasApart(t *testing.T) {
	a, b := New(1), New(1)
	must(t, a.Put("ann", "tel", "5"))
	if len(b.Names("")) != 0 || a == b {
		t.Error("P2: two replicas of one number share a book")
	}
}

func TestPutStamps(t *testing.T) {
	for _, id := range numbers() {
		r := New(id)
		must(t, r.Put("ann", "tel", "5"))
		must(t, r.Put("bob", "tel", "6"))
		must(t, r.Put("ann", "tel", "5"))
		want := holding(id, register("bob", "tel", 2, id, "6"), register("ann", "tel", 3, id, "5"))
		if !reflect.DeepEqual(r, want) {
			t.Errorf("P3: %v, want %v", r, want)
		}
	}
}

func TestPutStampsBehindTheGreatestOfOthers(t *testing.T) {
	others := []api.Register{register("bob", "tel", 41, 9, "x"), register("zoe", "", 40, 9, ""), register("ann", "tel", 3, 9, "y")}
	r := holding(-2, others...)
	must(t, r.Put("ann", "tel", "5"))
	want := holding(-2, append(others, register("ann", "tel", 42, -2, "5"))...)
	if !reflect.DeepEqual(r, want) {
		t.Errorf("P3: %v, want %v", r, want)
	}
}

func TestDeleteStamps(t *testing.T) {
	r := New(4)
	must(t, r.Put("ann", "tel", "5"))
	must(t, r.Put("bob", "tel", "6"))
	must(t, r.Delete("ann"))
	must(t, r.Put("ann", "mail", "m"))
	must(t, r.Delete("ann"))
	must(t, r.Put("bob", "tel", "7"))
	want := holding(4, register("ann", "tel", 1, 4, "5"), register("ann", "mail", 4, 4, "m"), register("ann", "", 5, 4, ""), register("bob", "tel", 6, 4, "7"))
	if !reflect.DeepEqual(r, want) {
		t.Errorf("P3: %v, want %v", r, want)
	}
}

func TestPutTakesTheEdges(t *testing.T) {
	for _, name := range []string{"a", "z", "az", "eightchr", "zzzzzzzz"} {
		for _, field := range []string{"a", "z", "four", "zzzz"} {
			for _, value := range []string{"", "5", "\x00", "\xff\xfe\n", " .", strings.Repeat("x", 20), strings.Repeat("é", 10)} {
				r := New(1)
				must(t, r.Put(name, field, value))
				if l := fields(r, name); !slices.Equal(l, []string{field, value}) {
					t.Errorf("P3: Put(%q, %q, %q): %q", name, field, value, l)
				}
			}
		}
	}
}

func TestPutRefuses(t *testing.T) {
	long, longer := strings.Repeat("x", 21), strings.Repeat("é", 11)
	r := New(1)
	for _, odd := range oddTexts() {
		for _, field := range []string{"tel", "", "fives", odd} {
			for _, value := range []string{"", long} {
				refused(t, r.Put(odd, field, value), api.ErrName, odd)
			}
		}
		for _, value := range []string{"", long} {
			refused(t, r.Put("ann", odd, value), api.ErrField, odd)
		}
	}
	refused(t, r.Put("ann", "fives", ""), api.ErrField, "fives")
	for _, value := range []string{long, longer, strings.Repeat("\x00", 1<<20)} {
		refused(t, r.Put("ann", "tel", value), api.ErrValue, value)
	}
}

func TestDeleteRefuses(t *testing.T) {
	r := New(1)
	for _, odd := range oddTexts() {
		refused(t, r.Delete(odd), api.ErrName, odd)
	}
	refused(t, r.Delete("ann"), api.ErrAbsent, "ann")
	must(t, r.Put("ann", "tel", ""))
	refused(t, r.Delete("an"), api.ErrAbsent, "an")
	refused(t, r.Delete("anna"), api.ErrAbsent, "anna")
	must(t, r.Delete("ann"))
	refused(t, r.Delete("ann"), api.ErrAbsent, "ann")
	must(t, r.Put("ann", "mail", ""))
	must(t, r.Delete("ann"))
}

// A contact whose registers are there but not seen is absent, whoever deleted it.
func TestDeleteOfWhatIsNotSeen(t *testing.T) {
	r := holding(1, register("ann", "tel", 5, 2, "v"), register("ann", "", 5, 2, ""))
	refused(t, r.Delete("ann"), api.ErrAbsent, "ann")
	r = holding(1, register("ann", "tel", 5, 3, "v"), register("ann", "", 5, 2, ""))
	must(t, r.Delete("ann"))
}

func TestRefusedCallsChangeNothing(t *testing.T) {
	spoil := func(r *Replica) {
		r.Put("Ann", "tel", "9")
		r.Put("ann", "fives", "9")
		r.Put("ann", "tel", strings.Repeat("9", 21))
		r.Put("new", "", "9")
		r.Delete("")
		r.Delete("nobody")
		r.Delete("bob")
	}
	r := New(1)
	spoil(r)
	if !reflect.DeepEqual(r, New(1)) {
		t.Errorf("P1: an empty replica was changed: %v", r)
	}
	l := []api.Register{register("ann", "tel", 1, 1, "5"), register("bob", "tel", 2, 1, "6"), register("bob", "", 3, 1, "")}
	r = holding(1, l...)
	spoil(r)
	if want := holding(1, l...); !reflect.DeepEqual(r, want) {
		t.Errorf("P1: %v, want %v", r, want)
	}
}

func TestFieldsInOrder(t *testing.T) {
	r := New(1)
	for _, f := range []string{"tel", "mail", "a", "zzzz", "te", "b", "tell"} {
		must(t, r.Put("ann", f, f+"!"))
	}
	want := []string{"a", "a!", "b", "b!", "mail", "mail!", "te", "te!", "tel", "tel!", "tell", "tell!", "zzzz", "zzzz!"}
	for range 20 {
		if l := fields(r, "ann"); !slices.Equal(l, want) {
			t.Fatalf("P4: %q, want %q", l, want)
		}
	}
}

func TestFieldsOfNobody(t *testing.T) {
	r := New(1)
	must(t, r.Put("ann", "tel", "5"))
	for _, name := range append(oddTexts(), "an", "anna", "bob") {
		if l := fields(r, name); len(l) != 0 {
			t.Errorf("P4: Fields(%q): %q", name, l)
		}
	}
}

func TestFieldsStopsAndStartsAgain(t *testing.T) {
	r := New(1)
	for _, f := range []string{"a", "b", "c", "d"} {
		must(t, r.Put("ann", f, ""))
	}
	all := r.Fields("ann")
	for most := 1; most <= 4; most++ {
		var got []string
		all(func(f, _ string) bool {
			got = append(got, f)
			return len(got) < most
		})
		if !slices.Equal(got, []string{"a", "b", "c", "d"}[:most]) {
			t.Errorf("P1: told to stop after %d: %q", most, got)
		}
	}
}

func TestFieldsWhileTheBookIsEdited(t *testing.T) {
	r := New(1)
	for _, f := range []string{"a", "b", "c"} {
		must(t, r.Put("ann", f, "old"))
	}
	var got []string
	for f, v := range r.Fields("ann") {
		got = append(got, f, v)
		must(t, r.Put("ann", f+"x", "new"))
		must(t, r.Delete("ann"))
		must(t, r.Put("ann", "z", "new"))
	}
	if !slices.Equal(got, []string{"a", "old", "b", "old", "c", "old"}) {
		t.Errorf("P1: %q", got)
	}
}

func TestNamesIsTheCallers(t *testing.T) {
	r := New(1)
	must(t, r.Put("bob", "tel", "5"))
	must(t, r.Put("ann", "tel", "5"))
	l := r.Names("")
	l[0], l[1] = "x", "y"
	_ = append(l[:1], "z")
	if l := r.Names(""); !slices.Equal(l, []string{"ann", "bob"}) {
		t.Errorf("P1, P4: %q", l)
	}
}

func TestNamesOfOddPrefixes(t *testing.T) {
	r := New(1)
	must(t, r.Put("ann", "tel", "5"))
	for _, p := range append(oddTexts()[1:], "ann.", "anna", "n") {
		if l := r.Names(p); len(l) != 0 {
			t.Errorf("P4: Names(%q): %q", p, l)
		}
	}
}

// A replica that New did not make answers like an empty one.
func TestReplicasThatNewDidNotMake(t *testing.T) {
	for _, r := range []*Replica{nil, {}} {
		refused(t, r.Put("", "", ""), api.ErrName, "")
		refused(t, r.Delete("ann"), api.ErrAbsent, "ann")
		if len(fields(r, "ann")) != 0 || len(r.Names("")) != 0 {
			t.Error("P1: something in an empty book")
		}
		if len(slices.Collect(r.Registers())) != 0 || r.Digest("") != New(1).Digest("") {
			t.Error("P1: registers in an empty book")
		}
		if x, err := Load(r.Save()); err != nil || !reflect.DeepEqual(x, New(0)) {
			t.Errorf("P1: saved and loaded: %v, %v", x, err)
		}
		must(t, r.Put("ann", "tel", "5"))
	}
}

// busy is a replica with deletions and what they hide, and its registers in order.
func busy() (*Replica, []api.Register) {
	l := []api.Register{
		register("an", "z", 2, 4, "6"),
		register("ann", "", 4, 4, ""),
		register("ann", "a", 6, -4, "8"),
		register("ann", "tel", 3, 4, "7"),
		register("anna", "mail", 5, 4, ""),
		register("bob", "", 9, math.MinInt, ""),
		register("bob", "tel", 1, math.MaxInt, "\n \x00\xff"),
	}
	return holding(4, l[3], l[6], l[0], l[2], l[5], l[4], l[1]), l
}

func TestRegistersTellsAllInOrder(t *testing.T) {
	r, want := busy()
	all := r.Registers()
	for range 20 {
		if l := slices.Collect(all); !slices.Equal(l, want) {
			t.Fatalf("P5: %v, want %v", l, want)
		}
	}
}

func TestRegistersOfEdits(t *testing.T) {
	r := New(-3)
	must(t, r.Put("bob", "tel", "1"))
	must(t, r.Put("ann", "tel", "2"))
	must(t, r.Put("bob", "tel", "3"))
	must(t, r.Delete("ann"))
	refused(t, r.Delete("ann"), api.ErrAbsent, "ann")
	must(t, r.Put("ann", "a", "4"))
	must(t, r.Delete("ann"))
	want := []api.Register{register("ann", "", 6, -3, ""), register("ann", "a", 5, -3, "4"), register("ann", "tel", 2, -3, "2"), register("bob", "tel", 3, -3, "3")}
	if l := slices.Collect(r.Registers()); !slices.Equal(l, want) {
		t.Errorf("P5: %v, want %v", l, want)
	}
}

func TestRegistersStopsAndStartsAgain(t *testing.T) {
	r, want := busy()
	all := r.Registers()
	for most := 1; most <= len(want); most++ {
		var got []api.Register
		all(func(x api.Register) bool {
			got = append(got, x)
			return len(got) < most
		})
		if !slices.Equal(got, want[:most]) {
			t.Errorf("P1: told to stop after %d: %v", most, got)
		}
	}
}

func TestRegistersWhileTheBookIsEdited(t *testing.T) {
	r, want := busy()
	var got []api.Register
	for x := range r.Registers() {
		got = append(got, x)
		must(t, r.Put("ann", "new", "v"))
		must(t, r.Put(x.Name+"z", "new", "v"))
		must(t, r.Delete("ann"))
	}
	if !slices.Equal(got, want) {
		t.Errorf("P1: %v, want %v", got, want)
	}
}

func TestDigestOfWhatTheEditsWrote(t *testing.T) {
	r := New(1)
	empty := r.Digest("")
	must(t, r.Put("ann", "tel", "5"))
	before := r.Digest("")
	kept := before
	before[0] ^= 1
	if r.Digest("") != kept || kept == empty {
		t.Errorf("P1, P6: %x, want %x", r.Digest(""), kept)
	}
	refused(t, r.Put("ann", "tel", strings.Repeat("5", 21)), api.ErrValue, strings.Repeat("5", 21))
	refused(t, r.Delete("bob"), api.ErrAbsent, "bob")
	if r.Digest("") != kept {
		t.Error("P1: what was refused changed the digest")
	}
	must(t, r.Put("ann", "tel", "5"))
	if r.Digest("") == kept {
		t.Error("P6: the stamp does not show in the digest")
	}
}

// The order in which registers were taken in does not show.
func TestDigestOfLikeBooks(t *testing.T) {
	a, l := busy()
	slices.Reverse(l)
	b := holding(-9, l...)
	for _, prefix := range []string{"", "a", "an.", "ann", "ann.\x00", "bob.tel\x00", "x"} {
		if a.Digest(prefix) != b.Digest(prefix) {
			t.Errorf("P6: Digest(%q): %x, %x", prefix, a.Digest(prefix), b.Digest(prefix))
		}
	}
}

func TestDigestOfOddPrefixes(t *testing.T) {
	r, _ := busy()
	for _, p := range append(oddTexts()[1:], "ann\x00", "ann.tel\x00\x00", "ann.tel\x00 3", "ann.tel ", "ann.tell", "an.\x00", ".tel", "n") {
		if d := r.Digest(p); d != New(0).Digest("") {
			t.Errorf("P6: Digest(%.40q) of no register: %x", p, d)
		}
	}
}
