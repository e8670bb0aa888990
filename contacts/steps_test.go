package contacts_test

import (
	"encoding/hex"
	"fmt"
	"hash/fnv"
	"maps"
	"slices"
	"strings"
	"testing"

	"contacts/api"
	"contacts/plain"
)

// do carries out one step as the document writes it, such as "put 0 ann tel 5".
func do(w *plain.World, step string) plain.Fault {
	p := strings.Split(step, " ")
	if p[0] == "put" {
		return w.Put(int(p[1][0]-'0'), p[2], p[3], p[4])
	}
	return w.Delete(int(p[1][0]-'0'), p[2])
}

func three(t *testing.T) *plain.World {
	t.Helper()
	w := &plain.World{}
	for id := 1; id <= 3; id++ {
		if !w.New(id) {
			t.Fatal("P2: New made none")
		}
	}
	return w
}

func TestExamples(t *testing.T) {
	for _, c := range []struct {
		steps      string
		ann, names []string
	}{
		{"put 0 ann tel 5", []string{"tel", "5"}, []string{"ann"}},
		{"put 0 ann tel 5; put 0 ann tel 6", []string{"tel", "6"}, []string{"ann"}},
		{"put 0 ann tel 5; put 0 ann mail a@b; put 0 an tel 1", []string{"mail", "a@b", "tel", "5"}, []string{"an", "ann"}},
		{"put 0 ann tel 5; delete 0 ann", nil, nil},
		{"put 0 ann tel 5; delete 0 ann; put 0 ann mail m", []string{"mail", "m"}, []string{"ann"}},
	} {
		w := three(t)
		for _, step := range strings.Split(c.steps, "; ") {
			if f := do(w, step); f != (plain.Fault{}) {
				t.Errorf("Examples: %s: %v", step, f)
			}
		}
		ann, ok := w.Fields(0, "ann")
		if !ok || !slices.Equal(ann, c.ann) || !slices.Equal(w.Names(0, ""), c.names) {
			t.Errorf("Examples: %s: %q, %q, want %q, %q", c.steps, ann, w.Names(0, ""), c.ann, c.names)
		}
		if len(w.Names(1, "")) != 0 {
			t.Errorf("Examples: %s: replica 1 was told without a session", c.steps)
		}
	}
}

func TestDigestExamples(t *testing.T) {
	for _, c := range []struct{ steps, prefix, want string }{
		{"", "", "cbf29ce484222325"},
		{"put 0 ann tel 5", "", "c66462c9e304fed7"},
		{"put 0 ann tel 5", "an", "c66462c9e304fed7"},
		{"put 0 ann tel 5", "b", "cbf29ce484222325"},
		{"put 0 ann tel 5; put 0 bob town Oslo", "", "9709c188c4b3613a"},
		{"put 0 ann tel 5; put 0 bob town Oslo", "b", "7f6635496167b970"},
		{"put 0 ann tel 5; delete 0 ann", "", "27c1e971ea5af45f"},
		{"put 0 ann tel 5; delete 0 ann", "ann.tel\x00", "c66462c9e304fed7"},
	} {
		w := three(t)
		for _, step := range strings.Split(c.steps, "; ") {
			if step != "" {
				do(w, step)
			}
		}
		if d := hex.EncodeToString([]byte(w.Digest(0, c.prefix))); d != c.want {
			t.Errorf("P6, Examples: %q: Digest(%q) = %s, want %s", c.steps, c.prefix, d, c.want)
		}
	}
}

// written is what one replica, of number 1, has written: each edit that was not refused counts.
type written struct {
	counter int
	last    map[string]api.Register
}

func (k *written) do(step string) {
	p := append(strings.Split(step, " "), "", "")
	k.counter++
	k.last[p[2]+"."+p[3]] = api.Register{Name: p[2], Field: p[3], Stamp: api.Stamp{Counter: k.counter, Replica: 1}, Value: p[4]}
}

// text is the text behind a digest, and registers what it tells.
func (k *written) text(prefix string) (text string, registers []api.Register) {
	for _, key := range slices.Sorted(maps.Keys(k.last)) {
		if x := k.last[key]; strings.HasPrefix(key+"\x00", prefix) {
			registers = append(registers, x)
			text += fmt.Sprintf("%s %d %d %d %s\n", key, x.Stamp.Counter, x.Stamp.Replica, len(x.Value), x.Value)
		}
	}
	return text, registers
}

func (k *written) same(t *testing.T, w *plain.World, steps []string) {
	t.Helper()
	for _, prefix := range []string{"", "a", "a.", "a.\x00", "a.t", "a.t\x00", "a.u", "ab", "ab.", "ab.\x00", "ab.t\x00", "b", "a\x00"} {
		text, _ := k.text(prefix)
		h := fnv.New64a()
		h.Write([]byte(text))
		if d := w.Digest(0, prefix); d != string(h.Sum(nil)) {
			t.Fatalf("P6: %q: Digest(%q) = %x, want that of %q", steps, prefix, d, text)
		}
	}
	_, want := k.text("")
	if l, ok := w.Registers(0); !ok || !slices.Equal(l, want) {
		t.Fatalf("P5: %q: %v, %v, want %v", steps, l, ok, want)
	}
}

// model is what one replica alone shows: with no other one, what comes last stands.
type model map[string]map[string]string

func (m model) do(step string) plain.Fault {
	p := strings.Split(step, " ")
	if p[0] == "put" {
		if m[p[2]] == nil {
			m[p[2]] = map[string]string{}
		}
		m[p[2]][p[3]] = p[4]
		return plain.Fault{}
	}
	if m[p[2]] == nil {
		return plain.Fault{Kind: int(api.ErrAbsent), What: p[2]}
	}
	delete(m, p[2])
	return plain.Fault{}
}

func (m model) fields(name string) []string {
	var l []string
	for _, f := range slices.Sorted(maps.Keys(m[name])) {
		l = append(l, f, m[name][f])
	}
	return l
}

func (m model) same(t *testing.T, w *plain.World, steps []string) {
	t.Helper()
	for _, name := range []string{"a", "ab"} {
		if l, ok := w.Fields(0, name); !ok || !slices.Equal(l, m.fields(name)) {
			t.Fatalf("P3, P4: %q: Fields(%q): %q, %v, want %q", steps, name, l, ok, m.fields(name))
		}
	}
	if l := w.Names(0, ""); !slices.Equal(l, slices.Sorted(maps.Keys(m))) {
		t.Fatalf("P3, P4: %q: Names: %q", steps, l)
	}
}

// saved checks that replica 0, saved and loaded, holds the same book.
func saved(t *testing.T, w *plain.World, steps []string) {
	t.Helper()
	size := w.Size()
	if f := w.Load(w.Save(0)); f != (plain.Fault{}) || w.Size() != size+1 {
		t.Fatalf("P9: %q: Load of what Save told: %v", steps, f)
	}
	want, _ := w.Registers(0)
	if l, ok := w.Registers(size); !ok || !slices.Equal(l, want) {
		t.Fatalf("P9: %q: loaded %v, %v, want %v", steps, l, ok, want)
	}
}

func TestAllShortRunsOfSteps(t *testing.T) {
	steps := []string{"put 0 a t 2", "put 0 a t 1", "put 0 a u ", "put 0 ab t 3", "delete 0 a", "delete 0 ab"}
	const length = 5
	runs := 1
	for range length {
		runs *= len(steps)
	}
	for run := range runs {
		w, m, done := &plain.World{}, model{}, []string{}
		k := &written{last: map[string]api.Register{}}
		w.New(1)
		for rest := run; len(done) < length; rest /= len(steps) {
			step := steps[rest%len(steps)]
			done = append(done, step)
			got, want := do(w, step), m.do(step)
			if got != want {
				t.Fatalf("P3: %q: %v, want %v", done, got, want)
			}
			if got == (plain.Fault{}) {
				k.do(step)
			}
			m.same(t, w, done)
			k.same(t, w, done)
		}
		saved(t, w, done)
	}
}
