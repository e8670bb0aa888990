package contacts_test

import (
	"encoding/hex"
	"fmt"
	"hash/fnv"
	"maps"
	"slices"
	"strings"
	"testing"

	"contacts/api"
	"contacts/plain"
)

func digit(text string) int { return int(text[0] - '0') }

// do carries out one step as the document writes it, such as "put 0 ann tel 5"; "once 0 1" is one whole session.
func do(w *plain.World, step string) plain.Fault {
	p := strings.Split(step, " ")
	switch p[0] {
	case "put":
		return w.Put(digit(p[1]), p[2], p[3], p[4])
	case "delete":
		return w.Delete(digit(p[1]), p[2])
	case "sync":
		for range 8 {
			w.Sync(digit(p[1]), digit(p[2]), nil)
		}
	case "once":
		w.Sync(digit(p[1]), digit(p[2]), []int{-1, 0})
	}
	return plain.Fault{}
}

func three(t *testing.T) *plain.World {
	t.Helper()
	w := &plain.World{}
	for id := 1; id <= 3; id++ {
		if !w.New(id) {
			t.Fatal("P2: New made none")
		}
	}
	return w
}

func TestExamples(t *testing.T) {
	for _, c := range []struct {
		steps         string
		who           int
		name          string
		fields, names []string
	}{
		{"put 0 ann tel 5", 0, "ann", []string{"tel", "5"}, []string{"ann"}},
		{"put 0 ann tel 5; put 0 ann tel 6", 0, "ann", []string{"tel", "6"}, []string{"ann"}},
		{"put 0 ann tel 5; put 0 ann mail a@b; put 0 an tel 1", 0, "ann", []string{"mail", "a@b", "tel", "5"}, []string{"an", "ann"}},
		{"put 0 ann tel 5; delete 0 ann", 0, "ann", nil, nil},
		{"put 0 ann tel 5; delete 0 ann; put 0 ann mail m", 0, "ann", []string{"mail", "m"}, []string{"ann"}},
		{"put 0 ann tel 5; put 1 ann tel 6; sync 0 1", 0, "ann", []string{"tel", "6"}, []string{"ann"}},
		{"put 0 ann tel 5; put 0 bob tel 1; put 0 ann tel 7; put 1 ann tel 6; sync 1 0", 1, "ann", []string{"tel", "7"}, []string{"ann", "bob"}},
		{"put 0 ann tel 5; sync 0 1; delete 1 ann; put 0 ann tel 9; sync 0 1", 0, "ann", nil, nil},
		{"put 0 ann tel 5; sync 0 1; delete 0 ann; put 1 ann tel 9; sync 0 1", 0, "ann", []string{"tel", "9"}, []string{"ann"}},
		{"put 0 ann tel 5; sync 0 1; delete 1 ann; put 0 ann mail m; put 0 ann tel 8; sync 0 1", 1, "ann", []string{"tel", "8"}, []string{"ann"}},
		{"put 0 ann tel 5; put 1 bob tel 6; sync 0 1; sync 1 2", 2, "bob", []string{"tel", "6"}, []string{"ann", "bob"}},
		{"put 0 ann tel 1; put 1 ann tel 2; put 2 ann tel 3; sync 2 1; sync 0 1; sync 2 0", 2, "ann", []string{"tel", "3"}, []string{"ann"}},
	} {
		for _, steps := range []string{c.steps, strings.ReplaceAll(c.steps, "sync", "once")} {
			w := three(t)
			for _, step := range strings.Split(steps, "; ") {
				if f := do(w, step); f != (plain.Fault{}) {
					t.Errorf("Examples: %s: %v", step, f)
				}
			}
			fields, ok := w.Fields(c.who, c.name)
			if !ok || !slices.Equal(fields, c.fields) || !slices.Equal(w.Names(c.who, ""), c.names) {
				t.Errorf("Examples: %s: %q, %q, want %q, %q", steps, fields, w.Names(c.who, ""), c.fields, c.names)
			}
			if !strings.Contains(steps, " 1 ") && len(w.Names(1, "")) != 0 {
				t.Errorf("Examples: %s: replica 1 was told without a session", steps)
			}
		}
	}
}

func TestDigestExamples(t *testing.T) {
	for _, c := range []struct{ steps, prefix, want string }{
		{"", "", "cbf29ce484222325"},
		{"put 0 ann tel 5", "", "c66462c9e304fed7"},
		{"put 0 ann tel 5", "an", "c66462c9e304fed7"},
		{"put 0 ann tel 5", "b", "cbf29ce484222325"},
		{"put 0 ann tel 5; put 0 bob town Oslo", "", "9709c188c4b3613a"},
		{"put 0 ann tel 5; put 0 bob town Oslo", "b", "7f6635496167b970"},
		{"put 0 ann tel 5; delete 0 ann", "", "27c1e971ea5af45f"},
		{"put 0 ann tel 5; delete 0 ann", "ann.tel\x00", "c66462c9e304fed7"},
	} {
		w := three(t)
		for _, step := range strings.Split(c.steps, "; ") {
			if step != "" {
				do(w, step)
			}
		}
		if d := hex.EncodeToString([]byte(w.Digest(0, c.prefix))); d != c.want {
			t.Errorf("P6, Examples: %q: Digest(%q) = %s, want %s", c.steps, c.prefix, d, c.want)
		}
	}
}

// written is what one replica, of number 1, has written: each edit that was not refused counts.
type written struct {
	counter int
	last    map[string]api.Register
}

func (k *written) do(step string) {
	p := append(strings.Split(step, " "), "", "")
	k.counter++
	k.last[p[2]+"."+p[3]] = api.Register{Name: p[2], Field: p[3], Stamp: api.Stamp{Counter: k.counter, Replica: 1}, Value: p[4]}
}

// text is the text behind a digest, and registers what it tells.
func (k *written) text(prefix string) (text string, registers []api.Register) {
	for _, key := range slices.Sorted(maps.Keys(k.last)) {
		if x := k.last[key]; strings.HasPrefix(key+"\x00", prefix) {
			registers = append(registers, x)
			text += fmt.Sprintf("%s %d %d %d %s\n", key, x.Stamp.Counter, x.Stamp.Replica, len(x.Value), x.Value)
		}
	}
	return text, registers
}

func (k *written) same(t *testing.T, w *plain.World, steps []string) {
	t.Helper()
	for _, prefix := range []string{"", "a", "a.", "a.\x00", "a.t", "a.t\x00", "a.u", "ab", "ab.", "ab.\x00", "ab.t\x00", "b", "a\x00"} {
		text, _ := k.text(prefix)
		h := fnv.New64a()
		h.Write([]byte(text))
		if d := w.Digest(0, prefix); d != string(h.Sum(nil)) {
			t.Fatalf("P6: %q: Digest(%q) = %x, want that of %q", steps, prefix, d, text)
		}
	}
	_, want := k.text("")
	if l, ok := w.Registers(0); !ok || !slices.Equal(l, want) {
		t.Fatalf("P5: %q: %v, %v, want %v", steps, l, ok, want)
	}
}

// model is what one replica alone shows: with no other one, what comes last stands.
type model map[string]map[string]string

func (m model) do(step string) plain.Fault {
	p := strings.Split(step, " ")
	if p[0] == "put" {
		if m[p[2]] == nil {
			m[p[2]] = map[string]string{}
		}
		m[p[2]][p[3]] = p[4]
		return plain.Fault{}
	}
	if m[p[2]] == nil {
		return plain.Fault{Kind: int(api.ErrAbsent), What: p[2]}
	}
	delete(m, p[2])
	return plain.Fault{}
}

func (m model) fields(name string) []string {
	var l []string
	for _, f := range slices.Sorted(maps.Keys(m[name])) {
		l = append(l, f, m[name][f])
	}
	return l
}

func (m model) same(t *testing.T, w *plain.World, steps []string) {
	t.Helper()
	for _, name := range []string{"a", "ab"} {
		if l, ok := w.Fields(0, name); !ok || !slices.Equal(l, m.fields(name)) {
			t.Fatalf("P3, P4: %q: Fields(%q): %q, %v, want %q", steps, name, l, ok, m.fields(name))
		}
	}
	if l := w.Names(0, ""); !slices.Equal(l, slices.Sorted(maps.Keys(m))) {
		t.Fatalf("P3, P4: %q: Names: %q", steps, l)
	}
}

// saved checks that replica 0, saved and loaded, holds the same book.
func saved(t *testing.T, w *plain.World, steps []string) {
	t.Helper()
	size := w.Size()
	if f := w.Load(w.Save(0)); f != (plain.Fault{}) || w.Size() != size+1 {
		t.Fatalf("P9: %q: Load of what Save told: %v", steps, f)
	}
	want, _ := w.Registers(0)
	if l, ok := w.Registers(size); !ok || !slices.Equal(l, want) {
		t.Fatalf("P9: %q: loaded %v, %v, want %v", steps, l, ok, want)
	}
}

func TestAllShortRunsOfSteps(t *testing.T) {
	steps := []string{"put 0 a t 2", "put 0 a t 1", "put 0 a u ", "put 0 ab t 3", "delete 0 a", "delete 0 ab"}
	const length = 5
	runs := 1
	for range length {
		runs *= len(steps)
	}
	for run := range runs {
		w, m, done := &plain.World{}, model{}, []string{}
		k := &written{last: map[string]api.Register{}}
		w.New(1)
		for rest := run; len(done) < length; rest /= len(steps) {
			step := steps[rest%len(steps)]
			done = append(done, step)
			got, want := do(w, step), m.do(step)
			if got != want {
				t.Fatalf("P3: %q: %v, want %v", done, got, want)
			}
			if got == (plain.Fault{}) {
				k.do(step)
			}
			m.same(t, w, done)
			k.same(t, w, done)
		}
		saved(t, w, done)
	}
}

// books is what several replicas hold, of the numbers 1, 2 and so on: their registers by key.
type books []map[string]api.Register

func newBooks(n int) books {
	var b books
	for range n {
		b = append(b, map[string]api.Register{})
	}
	return b
}

func (b books) write(i int, name, field, value string) {
	counter := 0
	for _, x := range b[i] {
		counter = max(counter, x.Stamp.Counter)
	}
	b[i][name+"."+field] = api.Register{Name: name, Field: field, Stamp: api.Stamp{Counter: counter + 1, Replica: i + 1}, Value: value}
}

func later(a, b api.Stamp) bool {
	return a.Counter > b.Counter || a.Counter == b.Counter && a.Replica > b.Replica
}

// session makes both hold what the two hold together; no two replicas have one number here, so stamps tell which wins.
func (b books) session(i, j int) {
	for key, x := range b[i] {
		if y, there := b[j][key]; there && later(y.Stamp, x.Stamp) {
			b[i][key] = y
		}
	}
	for key, y := range b[j] {
		if _, there := b[i][key]; !there {
			b[i][key] = y
		}
	}
	b[j] = maps.Clone(b[i])
}

// fields is what is seen of a contact.
func (b books) fields(i int, name string) []string {
	var l []string
	deletion, deleted := b[i][name+"."]
	for _, key := range slices.Sorted(maps.Keys(b[i])) {
		x := b[i][key]
		if x.Name == name && x.Field != "" && (!deleted || later(x.Stamp, deletion.Stamp)) {
			l = append(l, x.Field, x.Value)
		}
	}
	return l
}

func (b books) do(step string) plain.Fault {
	p := strings.Split(step, " ")
	i := digit(p[1])
	switch p[0] {
	case "put":
		b.write(i, p[2], p[3], p[4])
	case "delete":
		if b.fields(i, p[2]) == nil {
			return plain.Fault{Kind: int(api.ErrAbsent), What: p[2]}
		}
		b.write(i, p[2], "", "")
	case "sync", "once":
		b.session(i, digit(p[2]))
	}
	return plain.Fault{}
}

func (b books) same(t *testing.T, w *plain.World, steps []string) {
	t.Helper()
	for i := range b {
		var want []api.Register
		for _, key := range slices.Sorted(maps.Keys(b[i])) {
			want = append(want, b[i][key])
		}
		if l, ok := w.Registers(i); !ok || !slices.Equal(l, want) {
			t.Fatalf("P7, P8: %q: replica %d holds %v, %v, want %v", steps, i, l, ok, want)
		}
		if l, ok := w.Fields(i, "a"); !ok || !slices.Equal(l, b.fields(i, "a")) {
			t.Fatalf("P4, P8: %q: replica %d shows %q, %v, want %q", steps, i, l, ok, b.fields(i, "a"))
		}
	}
}

func TestAllShortRunsOfStepsWithSessions(t *testing.T) {
	steps := []string{"put 0 a t 2", "put 1 a t 1", "put 2 a u 3", "delete 0 a", "delete 1 a", "once 0 1", "once 2 1", "sync 2 0"}
	const length = 5
	runs := 1
	for range length {
		runs *= len(steps)
	}
	for run := range runs {
		w, b, done := three(t), newBooks(3), []string{}
		for rest := run; len(done) < length; rest /= len(steps) {
			step := steps[rest%len(steps)]
			done = append(done, step)
			if got, want := do(w, step), b.do(step); got != want {
				t.Fatalf("P3: %q: %v, want %v", done, got, want)
			}
		}
		b.same(t, w, done)
	}
}
