package contacts

import (
	"encoding/hex"
	"math"
	"math/rand"
	"slices"
	"strings"
	"testing"

	"contacts/api"
)

func keyOf(x api.Register) string { return x.Name + "." + x.Field }

// wins: does a win over b, which has the same key? (In the document's words, so that it leans on nothing of the program.)
func wins(a, b api.Register) bool {
	if a.Stamp.Counter != b.Stamp.Counter {
		return a.Stamp.Counter > b.Stamp.Counter
	}
	if a.Stamp.Replica != b.Stamp.Replica {
		return a.Stamp.Replica > b.Stamp.Replica
	}
	return a.Value > b.Value
}

func byKey(registers []api.Register) map[string]api.Register {
	m := map[string]api.Register{}
	for _, x := range registers {
		if old, there := m[keyOf(x)]; !there || wins(x, old) {
			m[keyOf(x)] = x
		}
	}
	return m
}

// together is what two books hold together, in order.
func together(a, b []api.Register) []api.Register {
	var l []api.Register
	for _, x := range byKey(slices.Concat(a, b)) {
		l = append(l, x)
	}
	slices.SortFunc(l, func(x, y api.Register) int { return strings.Compare(keyOf(x), keyOf(y)) })
	return l
}

// differing is how many keys there are of which the two hold different registers, or just one of them holds one.
func differing(a, b []api.Register) int {
	m, k, n := byKey(a), byKey(b), 0
	for key, x := range byKey(slices.Concat(a, b)) {
		if m[key] != x || k[key] != x {
			n++
		}
	}
	return n
}

func all(r *Replica) []api.Register { return slices.Collect(r.Registers()) }

// pair is two books of which a session is to be held.
type pair struct {
	what      string
	near, far []api.Register
}

func (p pair) turned() pair { return pair{p.what + ", turned", p.far, p.near} }

func (p pair) replicas() (near, far *Replica) { return holding(1, p.near...), holding(2, p.far...) }

// broken checks what P7 says of a replica behind any session: was is what it held.
func (p pair) broken(t *testing.T, r *Replica, was []api.Register) {
	t.Helper()
	now, both := byKey(all(r)), byKey(together(p.near, p.far))
	for _, x := range was {
		if y := now[keyOf(x)]; y != x && !wins(y, x) {
			t.Fatalf("P7: %s: %v became %v", p.what, x, y)
		}
	}
	for _, x := range now {
		if both[keyOf(x)] != x && !slices.Contains(was, x) {
			t.Fatalf("P7: %s: %v came from nowhere", p.what, x)
		}
	}
}

// whole checks what P8 says of both behind a whole session.
func (p pair) whole(t *testing.T, near, far *Replica) {
	t.Helper()
	want := together(p.near, p.far)
	for _, r := range []*Replica{near, far} {
		if !slices.Equal(all(r), want) {
			t.Fatalf("P8: %s: number %d holds %v, want %v", p.what, r.id, all(r), want)
		}
	}
}

// bound is how many bytes a session may carry that is no scrub.
func (p pair) bound() int { return 100 + 4000*differing(p.near, p.far) }

// scrubNext brings a replica to where its next session with one of that number is a scrub.
func scrubNext(r *Replica, id int) {
	for range 7 {
		r.Sync(New(id), 0)
	}
}

// run holds one session of fresh replicas and checks P7, and P8 if it has to be whole.
func (p pair) run(t *testing.T, scrub bool, most ...int) (frames, size int) {
	t.Helper()
	near, far := p.replicas()
	if scrub {
		scrubNext(near, 2)
	}
	frames, size = near.Sync(far, most...)
	p.broken(t, near, p.near)
	p.broken(t, far, p.far)
	told := len(most) > 0 && most[0] >= 0
	if !told || frames < most[0] {
		p.whole(t, near, far)
	}
	if told && (frames > most[0] || (frames == 0) != (most[0] == 0)) || !told && frames == 0 || size < frames || (size == 0) != (frames == 0) {
		t.Fatalf("P7: %s: %d frames, %d bytes, most %v", p.what, frames, size, most)
	}
	if !scrub && size > p.bound() {
		t.Fatalf("P8: %s: %d bytes, most %d", p.what, size, p.bound())
	}
	return frames, size
}

// tree is registers of which each byte of the key aaaaaaaa.aaaa is one of as many as can be, with the longest stamps and values: the digests on the way to that key are as many as can be.
func tree() []api.Register {
	var l []api.Register
	add := func(name, field string) {
		l = append(l, register(name, field, math.MinInt, math.MinInt, strings.Repeat("v", 20)))
	}
	const most, name = "aaaa", "aaaaaaaa"
	for n := range len(name) {
		for c := 'b'; c <= 'z'; c++ {
			add(name[:n]+string(c), most)
		}
		add(name[:n+1], most)
	}
	for n := range len(most) {
		for c := 'b'; c <= 'z'; c++ {
			add(name, most[:n]+string(c))
		}
		add(name, most[:n+1])
	}
	return append(l, register(name, "", math.MinInt, math.MinInt, ""))
}

// changed is the registers, one of each so many of them written anew.
func changed(registers []api.Register, each, first int) []api.Register {
	l := slices.Clone(registers)
	for i := first; i < len(l); i += each {
		l[i].Stamp.Counter = math.MaxInt
	}
	return l
}

// grown is n registers whose keys tell little apart from one another.
func grown(n int) []api.Register {
	var l []api.Register
	for i := range n {
		name := strings.Repeat("a", i%8) + string(rune('a'+i/8%26))
		l = append(l, register(name, strings.Repeat("b", i/208%3)+string(rune('a'+i/624%26)), i, i%3, ""))
	}
	return l
}

// guessed is a book that a seed makes, of few keys or of many.
func guessed(r *rand.Rand, n int) []api.Register {
	var l []api.Register
	text := func(most int) string {
		b := make([]byte, 1+r.Intn(most))
		for i := range b {
			b[i] = "abz"[r.Intn(3)]
		}
		return string(b)
	}
	for range n {
		x := register(text(1+r.Intn(8)), text(1+r.Intn(4)), r.Intn(4), r.Intn(3), text(2))
		if r.Intn(5) == 0 {
			x.Field, x.Value = "", ""
		}
		l = append(l, x)
	}
	return together(l, nil)
}

func pairs() []pair {
	_, l := busy()
	full := tree()
	list := []pair{
		{"two empty books", nil, nil},
		{"nothing and one", nil, l[:1]},
		{"nothing and some", nil, l},
		{"nothing and many", nil, full},
		{"the same", l, l},
		{"many that are the same", full, full},
		{"halves", l[:4], l[4:]},
		{"by turns", []api.Register{l[0], l[2], l[4], l[6]}, []api.Register{l[1], l[3], l[5]}},
		{"one more", l[:6], l},
		{"one stamp, two values", []api.Register{register("a", "t", 1, 1, "5")}, []api.Register{register("a", "t", 1, 1, "50")}},
		{"one counter, two numbers", []api.Register{register("a", "t", 1, 1, "9")}, []api.Register{register("a", "t", 1, 2, "")}},
		{"a field and its deletion", []api.Register{register("a", "t", 1, 1, "9")}, []api.Register{register("a", "", 1, 2, "")}},
		{"two deletions", []api.Register{register("a", "", 3, 1, "")}, []api.Register{register("a", "", 1, 2, "")}},
		{"each wins some", changed(grown(900), 2, 0), changed(grown(900), 2, 1)},
		{"many that differ", grown(900), changed(grown(900), 1, 0)},
		{"two ends", changed(full, len(full)-1, 0), full},
	}
	for n := range 12 {
		list = append(list, pair{"few", grown(n), changed(grown(n), 3, 1)}, pair{"one more than few", grown(n), grown(n + 1)})
	}
	r := rand.New(rand.NewSource(1))
	for n := range 30 {
		common := guessed(r, n*n/4)
		list = append(list, pair{"guessed", together(common, guessed(r, n)), together(common, guessed(r, r.Intn(n+1)))})
	}
	for _, p := range slices.Clone(list) {
		list = append(list, p.turned())
	}
	return list
}

func TestWholeSessions(t *testing.T) {
	t.Parallel()
	for _, p := range pairs() {
		for _, scrub := range []bool{false, true} {
			frames, size := p.run(t, scrub)
			for _, most := range [][]int{{}, {-1}, {math.MinInt}, {-1, 0}, {-7, 1, 2}, {frames}, {frames, 0}, {frames + 1}, {math.MaxInt, 0}} {
				near, far := p.replicas()
				if scrub {
					scrubNext(near, 2)
				}
				was := slices.Clone(most)
				if f, s := near.Sync(far, most...); f != frames || s != size {
					t.Fatalf("P7: %s: most %v: %d frames, %d bytes, want %d, %d", p.what, most, f, s, frames, size)
				}
				p.whole(t, near, far)
				if !slices.Equal(most, was) {
					t.Fatalf("P1: most %v became %v", was, most)
				}
			}
		}
	}
}

func TestBreaks(t *testing.T) {
	t.Parallel()
	for _, p := range pairs() {
		for _, scrub := range []bool{false, true} {
			frames, size := p.run(t, scrub)
			last := 0
			for most := range frames {
				f, s := p.run(t, scrub, most)
				if f != most || s < last || s >= size {
					t.Fatalf("P7: %s: most %d: %d frames, %d bytes; all: %d, %d", p.what, most, f, s, frames, size)
				}
				if g, z := p.run(t, scrub, most, -1, 99); g != f || z != s {
					t.Fatalf("P7: %s: others than the first of most mean something", p.what)
				}
				last = s
			}
		}
	}
}

func TestBrokenSessionsAreMadeGood(t *testing.T) {
	t.Parallel()
	for _, p := range pairs() {
		for most := range 8 {
			near, far := p.replicas()
			near.Sync(far, most)
			far.Sync(near, most/2)
			if _, size := far.Sync(near); size > p.bound() {
				t.Fatalf("P8: %s: %d bytes, most %d", p.what, size, p.bound())
			}
			p.whole(t, near, far)
		}
	}
}

// Frames are carried one session after the other, a few each: in the end both hold all.
func TestSessionsThatAllBreak(t *testing.T) {
	p := pair{"breaking", changed(tree(), 9, 0), changed(tree(), 7, 1)}
	near, far := p.replicas()
	for k := range 8 {
		near.Sync(far, k/4+1)
		far.Sync(near, k/4+1)
		p.broken(t, near, p.near)
		p.broken(t, far, p.far)
	}
	p.whole(t, near, far) // each has begun its scrub, of which two frames are all
}

func TestNoSession(t *testing.T) {
	r, l := busy()
	for _, most := range [][]int{{}, {-1}, {0}, {1}, {100, 1}} {
		for _, c := range []struct{ r, other *Replica }{{r, r}, {r, nil}, {nil, r}, {nil, nil}} {
			if frames, size := c.r.Sync(c.other, most...); frames != 0 || size != 0 {
				t.Errorf("P7: with itself, or nil: %d frames, %d bytes", frames, size)
			}
		}
	}
	if !slices.Equal(all(r), l) {
		t.Errorf("P7: with itself, or nil: it holds %v, want %v", all(r), l)
	}
}

// A replica that New did not make is one of number 0.
func TestSessionsOfTheZeroReplica(t *testing.T) {
	_, l := busy()
	for _, p := range []pair{{"the zero one begins", nil, l}, {"with the zero one", l, nil}} {
		near, far := holding(0, p.near...), holding(0, p.far...)
		if p.near == nil {
			near = &Replica{}
		} else {
			far = &Replica{}
		}
		near.Sync(far)
		p.whole(t, near, far)
	}
}

func TestSessionsOfAnyNumbers(t *testing.T) {
	for _, near := range numbers() {
		for _, far := range numbers() {
			r, other := New(near), New(far)
			must(t, r.Put("ann", "tel", "5"))
			must(t, other.Put("ann", "tel", "6"))
			must(t, other.Put("bob", "tel", "7"))
			p := pair{"of any numbers", all(r), all(other)}
			if frames, size := r.Sync(other); frames < 1 || size > p.bound() {
				t.Errorf("P7: numbers %d and %d: %d frames, %d bytes", near, far, frames, size)
			}
			p.whole(t, r, other)
		}
	}
}

func TestLikeBooksTakeFewBytes(t *testing.T) {
	for _, n := range []int{0, 1, 2, 3, 4, 5, 6, 7, 50, 1000, 5000} {
		r, other := holding(1, grown(n)...), holding(2, grown(n)...)
		for i := 1; i <= 20; i++ {
			for _, s := range []struct{ r, other *Replica }{{r, other}, {other, r}} {
				if frames, size := s.r.Sync(s.other); frames < 1 || size < 1 || size > 100 && i%8 != 0 {
					t.Errorf("P8: %d alike, session %d: %d frames, %d bytes", n, i, frames, size)
				}
			}
		}
	}
}

func TestOneKeyThatDiffers(t *testing.T) {
	t.Parallel()
	full := tree()
	for i := range full {
		anew := pair{"one of a tree written anew", full, changed(full, len(full), i)}
		lacking := pair{"one of a tree lacking", full, slices.Concat(full[:i], full[i+1:])}
		if i%2 == 0 {
			anew, lacking = anew.turned(), lacking.turned()
		}
		anew.run(t, false)
		lacking.run(t, false)
	}
	more := register("aaaaaaa", "", math.MaxInt, math.MinInt, "")
	pair{"one more", full, append(slices.Clone(full), more)}.run(t, false)
}

// The last of the bytes are cut off the tree's way, one after the other: it then ends in a few registers instead.
func TestOneKeyThatDiffersAmongFew(t *testing.T) {
	t.Parallel()
	full := tree()
	for end := range "aaaaaaaa.aaaa" {
		for left := range 7 {
			var l []api.Register
			n := 0
			for _, x := range full {
				if strings.HasPrefix(keyOf(x), "aaaaaaaa.aaaa"[:end]) {
					n++
					if n > left {
						continue
					}
				}
				l = append(l, x)
			}
			for i := range l {
				if strings.HasPrefix(keyOf(l[i]), "aaaaaaaa.aaaa"[:end]) {
					anew := pair{"one among few written anew", l, changed(l, len(l), i)}
					lacking := pair{"one among few lacking", l, slices.Concat(l[:i], l[i+1:])}
					anew.run(t, false)
					lacking.run(t, false)
					lacking.turned().run(t, false)
				}
			}
		}
	}
}

// alike are two values of which registers of the key ann.tel and of the stamp 1 of number 1 have one digest, and the whole books too where it is the first key.
func alike(t *testing.T) (less, greater string) {
	t.Helper()
	less, greater = bytesOf(t, "b6640af5b783cb157caf023c33130e2e0d9914d2"), bytesOf(t, "b66b1ffdb68d583eae6c06240e2d36e50dff1fc9")
	x, y := annTel(less), annTel(greater)
	if less >= greater || holding(1, x).Digest("") != holding(1, y).Digest("") {
		t.Fatal("the digests are not alike")
	}
	return less, greater
}

func bytesOf(t *testing.T, digits string) string {
	t.Helper()
	b, err := hex.DecodeString(digits)
	must(t, err)
	return string(b)
}

func annTel(value string) api.Register { return register("ann", "tel", 1, 1, value) }

// many is enough registers, behind ann.tel, that telling all shows in the bytes.
func many() []api.Register {
	var l []api.Register
	for i := range 26 * 26 {
		l = append(l, register("b"+string([]byte{byte('a' + i/26), byte('a' + i%26)}), "tel", 1, 1, "some value"))
	}
	return l
}

// counted holds a session with another replica of that number, which r wins over in a register that digests do not find. It checks that it told the other one if it has to be a scrub, and that it took few bytes if not.
func counted(t *testing.T, r *Replica, id int, scrub bool, what string) {
	t.Helper()
	less, _ := alike(t)
	other := holding(id, append(many(), annTel(less))...)
	p := pair{what, all(r), all(other)}
	_, size := r.Sync(other)
	if scrub {
		p.whole(t, r, other)
	} else if size > p.bound() {
		t.Fatalf("P8: %s: no scrub, and %d bytes", what, size)
	}
}

// winner is a replica of that number that wins over the others of counted.
func winner(t *testing.T, id int) *Replica {
	_, greater := alike(t)
	return holding(id, append(many(), annTel(greater))...)
}

func TestScrubs(t *testing.T) {
	t.Parallel()
	for _, id := range numbers() {
		r := winner(t, 1)
		for i := 1; i <= 33; i++ {
			counted(t, r, id, i%8 == 0, "one after the other")
		}
	}
}

func TestScrubTellsWhoBeganIt(t *testing.T) {
	less, greater := alike(t)
	for _, n := range []int{0, 1, 26 * 26} {
		p := pair{"the other one wins", append(many()[:n], annTel(less)), append(many()[:n], annTel(greater))}
		near, far := p.replicas()
		for i := 1; i <= 8; i++ {
			_, size := near.Sync(far)
			if i < 8 && size > p.bound() {
				t.Errorf("P8: session %d: %d bytes", i, size)
			}
		}
		p.whole(t, near, far)
	}
}

func TestBrokenSessionsCount(t *testing.T) {
	for most := range 3 {
		r := winner(t, 1)
		for i := 1; i <= 24; i++ {
			if i%8 == 0 {
				counted(t, r, 2, true, "behind broken ones")
				continue
			}
			r.Sync(holding(2, annTel("")), most)
		}
		scrubNext(r, 2)
		r.Sync(New(2), 0) // a scrub that breaks is one, too
		for i := 25; i <= 32; i++ {
			counted(t, r, 2, i == 32, "behind a broken scrub")
		}
	}
}

func TestSessionsCountByNumber(t *testing.T) {
	r := winner(t, 1)
	for i := 1; i <= 16; i++ {
		counted(t, r, 2, i%8 == 0, "with number 2")
		counted(t, r, 1, i%8 == 0, "with its own number")
		if i%2 == 0 {
			counted(t, r, math.MinInt, i == 16, "half as often")
		}
		counted(t, r, -2, i%4 == 0 && i%8 == 0, "with number -2")
	}
}

func TestWhatCountsNot(t *testing.T) {
	r := winner(t, 1)
	same := holding(2, all(r)...)
	for i := 1; i <= 16; i++ {
		for range 3 {
			r.Sync(r)
			r.Sync(nil)
			same.Sync(r)
			winner(t, 2).Sync(r)
			r.Sync(New(3), 0)
		}
		counted(t, r, 1, i%8 == 0, "those with itself or nil")
		counted(t, r, 2, i%8 == 0, "those that others begin")
	}
}

func TestLoadedReplicasHaveBegunNone(t *testing.T) {
	t.Parallel()
	for n := range 9 {
		r := winner(t, 1)
		for i := 1; i <= n; i++ {
			counted(t, r, 2, i == 8, "ahead of Save")
		}
		x := loaded(t, r.Save())
		for i := 1; i <= 16; i++ {
			counted(t, x, 2, i%8 == 0, "behind Load")
		}
		counted(t, r, 2, n == 7, "behind Save")
	}
}

func TestSessionsWithLoadedReplicasCount(t *testing.T) {
	less, _ := alike(t)
	other := holding(2, append(many(), annTel(less))...)
	r := winner(t, 1)
	p := pair{"with loaded ones", all(r), all(other)}
	for range 7 {
		r.Sync(loaded(t, other.Save()))
	}
	x := loaded(t, other.Save())
	r.Sync(x)
	p.whole(t, r, x)
}

// Where digests below a prefix are alike, the books need not become so; but P7 holds, and the bound.
func TestLikeDigestsBelowAPrefix(t *testing.T) {
	less, greater := alike(t)
	rest := append(many(), register("a", "x", 1, 1, "first"), register("ann", "mail", 1, 1, "m"))
	for _, p := range []pair{
		{"that register alone", append(rest, annTel(less)), append(slices.Clone(rest), annTel(greater))},
		{"and others", append(changed(rest, 50, 3), annTel(less)), append(slices.Clone(rest), annTel(greater))},
	} {
		for most := -1; most < 10; most++ {
			near, far := p.replicas()
			if _, size := near.Sync(far, most); size > p.bound() {
				t.Errorf("P8: %s: %d bytes, most %d", p.what, size, p.bound())
			}
			p.broken(t, near, p.near)
			p.broken(t, far, p.far)
		}
		p.run(t, true)
	}
}

// Digests that differ in one byte alone are different.
func TestDigestsAreComparedWhole(t *testing.T) {
	for place, c := range [8][2]string{
		{"0ffe1b403f61390932337afb2bbc290c841adaf8", "0e1a24c71060cb15140b3d3517e4ee0d840fe3fc"},
		{"0ffe380795cbfc0ca26c354e80de7eef3e5f7225", "0e1a0e0d73302f1b6175723285290ea2786f7f24"},
		{"2a99411301fffc3f5f81941de23dddd32d743971", "2a9b402904aac9d3d885b614e722d5703e6d7774"},
		{"0f2bef0613db234ab26c2de488191de05b693b24", "0468ab1f3fb762515d555f25840522a25caf0429"},
		{"8e469c7f2b0f1253e6dc21fb0fb6780efd5db6e5", "8e469941130d1735385f254b0aee790c5c4d88e5"},
		{"03015e0f1a4e6da4a40bb93c33130ea25447e3fc", "0f1d7e0b065e74a26705ad1f15291aa05fdbedf8"},
		{"0468ab1f3f12297c15053d215e2853f0a380ba32", "0f249e197e0836a51f0e25e73c5e340ea2fe6537"},
		{"1a1ab070745730c93d30d57515062efa18ca262a", "1d7cb477745815d8417f392e32071beceeb86cf3"},
	} {
		x, y := annTel(bytesOf(t, c[0])), annTel(bytesOf(t, c[1]))
		d, e := holding(1, x).Digest(""), holding(1, y).Digest("")
		for i := range d {
			if (d[i] != e[i]) != (i == place) {
				t.Fatalf("the digests %x and %x differ elsewhere than at %d", d, e, place)
			}
		}
		for _, rest := range [][]api.Register{nil, many(), {register("a", "x", 1, 1, "first"), register("ann", "mail", 1, 1, ""), register("ann", "town", 1, 1, ""), register("anna", "tel", 1, 1, ""), register("b", "tel", 1, 1, "")}} {
			p := pair{"digests that differ in a byte", append(slices.Clone(rest), x), append(slices.Clone(rest), y)}
			p.run(t, false)
			p.turned().run(t, false)
		}
	}
}

func TestReplicasGoOnApart(t *testing.T) {
	r, _ := busy()
	other := New(5)
	r.Sync(other)
	was := all(r)
	must(t, other.Put("ann", "tel", "new"))
	must(t, other.Delete("anna"))
	if !slices.Equal(all(r), was) {
		t.Error("P7: what one writes behind a session shows in the other")
	}
	if x := byKey(all(other))["ann.tel"]; x != register("ann", "tel", 10, 5, "new") {
		t.Errorf("P3: %v: its counter is not behind those it was told", x)
	}
	r.Sync(other)
	if !slices.Equal(all(r), all(other)) || slices.Equal(all(r), was) {
		t.Errorf("P8: %v, %v", all(r), all(other))
	}
}
