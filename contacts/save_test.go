package contacts

import (
	"bytes"
	"math"
	"reflect"
	"slices"
	"strings"
	"testing"

	"contacts/api"
	"contacts/checksum"
	"contacts/wire"
)

// savers are replicas of several numbers: empty, with deletions and what they hide, with the longest texts.
func savers() []*Replica {
	_, l := busy()
	long := register("eightchr", "four", math.MaxInt, math.MinInt, strings.Repeat("\xff", 20))
	var all []*Replica
	for _, id := range append(numbers(), 300, -300) {
		all = append(all, New(id), holding(id, l...), holding(id, long), holding(id, register("a", "", 1, id, "")))
	}
	return all
}

func loaded(t *testing.T, data []byte) *Replica {
	t.Helper()
	r, err := Load(data)
	if r == nil || err != nil {
		t.Fatalf("P9: Load of what Save told: %v, %v", r, err)
	}
	return r
}

// broken checks that bytes are refused.
func broken(t *testing.T, data []byte) {
	t.Helper()
	r, err := Load(data)
	refused(t, err, api.ErrBroken, "")
	if r != nil || t.Failed() {
		t.Fatalf("P9: Load(%x) = %v, %v", data, r, err)
	}
}

// told is bytes in the form of Save's, of a replica that may be none.
func told(id int, d api.Digest, registers ...api.Register) []byte {
	var w wire.Writer
	w.Number(id)
	wire.WriteList(&w, registers, w.Register)
	w.Digest(d)
	return checksum.Seal(w.Bytes())
}

func TestLoadOfWhatSaveTold(t *testing.T) {
	for _, r := range savers() {
		x := loaded(t, r.Save())
		if x == r || !reflect.DeepEqual(x, r) {
			t.Errorf("P9: %v, want %v", x, r)
		}
		if !bytes.Equal(x.Save(), r.Save()) {
			t.Errorf("P9: saved again: %x, want %x", x.Save(), r.Save())
		}
	}
}

func TestLoadOfAGreatBook(t *testing.T) {
	r := New(-7)
	for i := range 26 * 26 * 26 {
		name := string([]byte{byte('a' + i/676), byte('a' + i/26%26), byte('a' + i%26)})
		r.book.Take(register(name, "tel", i+1, i%5-2, strings.Repeat("v", i%21)))
	}
	if x := loaded(t, r.Save()); !reflect.DeepEqual(x, r) {
		t.Error("P9: a great book is not the same")
	}
}

func TestSaveTellsTheBookAlone(t *testing.T) {
	r, l := busy()
	was := r.Save()
	if !reflect.DeepEqual(r, holding(4, l...)) {
		t.Errorf("P9: Save changed the replica: %v", r)
	}
	for range 20 {
		slices.Reverse(l)
		if data := holding(4, l...).Save(); !bytes.Equal(data, was) {
			t.Fatalf("P9: %x, want %x", data, was)
		}
	}
}

func TestSavedBytesAreTheCallers(t *testing.T) {
	r, l := busy()
	was := r.Save()
	clear(r.Save())
	_ = append(r.Save(), 'x')
	if data := r.Save(); !bytes.Equal(data, was) || !reflect.DeepEqual(r, holding(4, l...)) {
		t.Errorf("P1: %x, want %x", data, was)
	}
}

func TestLoadOnlyReads(t *testing.T) {
	r, _ := busy()
	data := r.Save()
	was := bytes.Clone(data)
	x := loaded(t, data)
	if !bytes.Equal(data, was) {
		t.Errorf("P1: Load changed the bytes: %x, want %x", data, was)
	}
	clear(data)
	if !reflect.DeepEqual(x, r) {
		t.Errorf("P1: the replica lives in the bytes: %v, want %v", x, r)
	}
	spoilt := append(bytes.Clone(was), 'x')
	Load(spoilt)
	if !bytes.Equal(spoilt, append(was, 'x')) {
		t.Errorf("P1: Load changed the bytes that it refused: %x", spoilt)
	}
}

func TestLoadedGoesOn(t *testing.T) {
	r, _ := busy()
	data := r.Save()
	x := loaded(t, data)
	must(t, x.Put("cy", "tel", "1"))
	must(t, x.Delete("anna"))
	if !bytes.Equal(r.Save(), data) {
		t.Error("P9: the loaded replica writes to the saved one's book")
	}
	must(t, r.Put("cy", "tel", "1"))
	must(t, r.Delete("anna"))
	if !reflect.DeepEqual(x, r) || x.Digest("") != r.Digest("") {
		t.Errorf("P9: %v, want %v", x, r)
	}
}

func TestLoadOfTurnedBits(t *testing.T) {
	for _, r := range savers() {
		data := r.Save()
		for i := range 8 * len(data) {
			data[i/8] ^= 1 << (i % 8)
			broken(t, data)
			data[i/8] ^= 1 << (i % 8)
		}
		loaded(t, data)
	}
}

func TestLoadOfCutBytes(t *testing.T) {
	broken(t, nil)
	for _, r := range savers() {
		data := r.Save()
		for n := range data {
			broken(t, data[:n])
			broken(t, bytes.Clone(data[:n]))
		}
	}
}

// The check sum of what was cut short may be right by chance: it must be found without it.
func TestLoadOfCutBytesWithTheirCheckSum(t *testing.T) {
	for _, r := range savers() {
		body, ok := checksum.Open(r.Save())
		if !ok {
			t.Fatal("P9: Save does not end with a check sum")
		}
		for n := range body {
			broken(t, checksum.Seal(body[:n]))
		}
		broken(t, checksum.Seal(append(bytes.Clone(body), 0)))
	}
}

func TestLoadOfADigestThatIsNotTheBooks(t *testing.T) {
	r, l := busy()
	loaded(t, told(4, r.Digest(""), l...))
	broken(t, told(4, r.Digest("an"), l...))
	broken(t, told(4, r.Digest(""), l[1:]...))
	broken(t, told(4, api.Digest{}))
	loaded(t, told(4, New(0).Digest("")))
}

func TestLoadOfRegistersThatNoEditWrites(t *testing.T) {
	wrong := []api.Register{
		register("ann", "", 1, 1, "v"),
		register("ann", "tel", 1, 1, strings.Repeat("v", 21)),
		register("", "", 1, 1, ""),
		register("", "tel", 1, 1, "v"),
	}
	for _, odd := range oddTexts() {
		wrong = append(wrong, register(odd, "tel", 1, 1, "v"), register(odd, "", 1, 1, ""))
		if odd != "" {
			wrong = append(wrong, register("ann", odd, 1, 1, "v"), register("ann", odd, 1, 1, ""))
		}
	}
	for _, x := range wrong {
		fine := register("bob", "tel", 3, 1, "v")
		for _, l := range [][]api.Register{{x}, {x, fine}, {fine, x}} {
			broken(t, told(1, holding(1, l...).Digest(""), l...))
		}
	}
}

// use makes every call of a replica, so that one that panics shows.
func use(r *Replica) {
	for x := range r.Registers() {
		fields(r, x.Name)
		r.Digest(x.Name)
	}
	for _, name := range r.Names("") {
		r.Delete(name)
	}
	r.Put("ann", "tel", "5")
	r.Delete("ann")
}

// anyBytes checks what holds of all bytes: a replica or an error, and the replica is one like others.
func anyBytes(t *testing.T, data []byte) {
	t.Helper()
	r, err := Load(data)
	if err != nil {
		refused(t, err, api.ErrBroken, "")
	}
	if (r == nil) != (err != nil) || t.Failed() {
		t.Fatalf("P1: Load(%x) = %v, %v", data, r, err)
	}
	if r == nil {
		return
	}
	for range 2 {
		if x := loaded(t, r.Save()); !reflect.DeepEqual(x, r) {
			t.Fatalf("P9: %x: %v, want %v", data, x, r)
		}
		use(r)
	}
}

func TestLoadOfAnyStamps(t *testing.T) {
	for _, counter := range numbers() {
		for _, replica := range numbers() {
			l := []api.Register{register("ann", "tel", counter, replica, "v"), register("bob", "", replica, counter, "")}
			data := told(replica, holding(1, l...).Digest(""), l...)
			if x := loaded(t, data); !reflect.DeepEqual(x, holding(replica, l...)) {
				t.Errorf("P9: %v, want %v", x, l)
			}
			anyBytes(t, data)
		}
	}
}

func TestLoadOfShortBytes(t *testing.T) {
	for a := range 256 {
		anyBytes(t, []byte{byte(a)})
		anyBytes(t, checksum.Seal([]byte{byte(a)}))
		for b := range 256 {
			anyBytes(t, []byte{byte(a), byte(b)})
			anyBytes(t, checksum.Seal([]byte{byte(a), byte(b)}))
		}
	}
}

func TestLoadOfLongBytes(t *testing.T) {
	for a := range 256 {
		for _, n := range []int{3, 4, 5, 8, 12, 13, 20, 100, 100000} {
			data := bytes.Repeat([]byte{byte(a)}, n)
			anyBytes(t, data)
			anyBytes(t, checksum.Seal(data))
		}
	}
}

// Each byte of what Save told becomes each other one, the check sum made right again.
func TestLoadOfChangedBytesWithTheirCheckSum(t *testing.T) {
	r, _ := busy()
	body, _ := checksum.Open(r.Save())
	for i := range body {
		changed := bytes.Clone(body)
		for range 256 {
			changed[i]++
			anyBytes(t, checksum.Seal(changed))
			anyBytes(t, changed)
		}
	}
}

func FuzzLoad(f *testing.F) {
	for _, r := range savers() {
		body, _ := checksum.Open(r.Save())
		f.Add(body)
		f.Add(r.Save())
	}
	f.Fuzz(func(t *testing.T, data []byte) {
		anyBytes(t, data)
		anyBytes(t, checksum.Seal(data))
	})
}
