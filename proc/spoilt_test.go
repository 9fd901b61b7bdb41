package proc_test

import (
	"math"
	"math/rand"
	"slices"
	"testing"

	"kiln/api"
	"kiln/dict"
	"kiln/proc"
)

// askAll asks all calls of a world: that each ends, and that with an error all
// else is zero, is all that is said.
func askAll(t *testing.T, w *world, last int) {
	t.Helper()
	for _, source := range []string{"^3", "(", "^P new foo: 'a'"} {
		if n, f := proc.Spawn(w.k, source); n < 0 || (n == 0) == (f.Code == api.OK) {
			t.Fatalf("Spawn = %d, %+v", n, f)
		}
	}
	count := proc.Count(w.k)
	if count < 0 || count > api.MaxSlots {
		t.Fatalf("Count = %d", count)
	}
	numbers := []int{math.MinInt, math.MaxInt, math.MinInt + 1, -1, 0, 1 << 62}
	for n := range min(count, 40) + 3 {
		numbers = append(numbers, n)
	}
	for _, n := range numbers {
		askOne(t, w, n)
	}
	for _, c := range append(numbers, last-1, last) {
		if s, e := proc.Stale(w.k, c); s && e != api.OK {
			t.Fatalf("Stale(%d) = %v, %d", c, s, e)
		}
	}
}

// askOne asks the calls of one process.
func askOne(t *testing.T, w *world, n int) {
	t.Helper()
	for _, fuel := range []int{0, 1, -5, 7, 30} {
		proc.State(w.k, n)
		if p, e := proc.Object(w.k, n); (p == 0) != (e != api.OK) {
			t.Fatalf("Object(%d) = %d, %d", n, p, e)
		}
		top, e := proc.Top(w.k, n)
		if (top == 0) != (e != api.OK) {
			t.Fatalf("Top(%d) = %d, %d", n, top, e)
		}
		proc.Stale(w.k, top)
		r, e := proc.Run(w.k, w.b, n, fuel)
		if e != api.OK && r != (api.Ran{}) || r.State < 0 || r.State > api.Failed || r.Used < 0 || r.Used > max(fuel, 0) || (r.State == 0) != (e != api.OK) {
			t.Fatalf("Run(%d, %d) = %+v, %d", n, fuel, r, e)
		}
	}
}

// lived is a world with processes that stand anywhere; the number is behind all objects.
func lived(t *testing.T) (*world, int) {
	t.Helper()
	w := lively(t, 4000, 400)
	for i, source := range programs() {
		n := w.spawn(source)
		if r, e := proc.Run(w.k, w.b, n, i%7); e != api.OK {
			t.Fatalf("Run = %+v, %d", r, e)
		}
	}
	return w, slices.Max(w.k.Space().Heap().All()) + 2
}

// P19.1: at all arguments each call ends.
func TestAllArguments(t *testing.T) {
	w, last := lived(t)
	askAll(t, w, last)
	for oop := range last {
		proc.Stale(w.k, oop)
	}
	// The book of another kernel, and one that no call made.
	other, last := lived(t)
	askAll(t, &world{t, other.k, w.b}, last)
	other, last = lived(t)
	askAll(t, &world{t, other.k, new(dict.Book)}, last)
}

// spoil changes something in a world, at random.
func (w *world) spoil(r *rand.Rand, last int) {
	h := w.k.Space().Heap()
	oop, i := 1+r.Intn(last), r.Intn(14)
	if r.Intn(2) == 0 {
		all := h.All()
		oop = all[len(all)-1-r.Intn(len(all)/2)]
	}
	x := api.Word(r.Intn(4*last+20) - 10)
	switch r.Intn(14) {
	case 0:
		h.Free(oop)
	case 1:
		h.SetClass(oop, []api.Word{obj(4 + r.Intn(14)), x}[r.Intn(2)])
	case 2:
		h.Exchange(oop, 1+r.Intn(last))
	case 3:
		w.k.Space().Crown(oop)
	case 4:
		w.k.Space().SetRoot(r.Intn(8), x)
	case 5:
		h.Mark(r.Intn(9))
	case 6:
		w.k.Symbols().Back(r.Intn(40))
	case 7, 8:
		h.Put(w.array(), r.Intn(25), x)
	default:
		h.Put(oop, i, x)
	}
}

// P19.1: kernels that are spoilt at random.
func TestSpoilt(t *testing.T) {
	r := rand.New(rand.NewSource(19))
	for range 150 {
		w, last := lived(t)
		for range 1 + r.Intn(12) {
			w.spoil(r, last)
		}
		askAll(t, w, last)
	}
}

// P19.1: contexts that wait for one another in a ring, and such that are too many.
func TestRings(t *testing.T) {
	for _, slot := range []int{api.ContextSender, api.ContextOuter} {
		for from := range 4 {
			for to := range 4 {
				w := lively(t, 9000, 900)
				n := w.spawn("^3 do: [3 do: [P new stay]]")
				w.wantRun(n, 30, ready(30))
				chain := w.chain(w.top(n))
				w.put(chain[from], slot, obj(chain[to]))
				w.raise("P")
				askAll(t, w, 100)
			}
		}
	}
}

// M2: where the space's stack has no room for what a call keeps, each call ends and leaves it as it was.
func TestFullStack(t *testing.T) {
	w := lively(t, 90000, 900)
	s := w.k.Space()
	for spare := range 6 {
		n := w.spawn("^3 + 4")
		s.Keep(slices.Repeat([]api.Word{num(1)}, api.MaxKept-spare)...)
		askAll(t, w, 100)
		askOne(t, w, n)
		if len(s.Kept()) != api.MaxKept-spare {
			t.Fatalf("%d are kept, %d were", len(s.Kept()), api.MaxKept-spare)
		}
		s.Drop(api.MaxKept - spare)
	}
}
