package reshape_test

import (
	"math/rand"
	"strings"
	"testing"

	"kiln/api"
	"kiln/class"
	"kiln/dict"
	"kiln/reshape"
	"kiln/space"
	"kiln/symbol"
)

// names is texts that may be asked for as a class or a field.
func names() []string {
	return []string{
		"", "P", "Q", "R", "S", "Object", "Array", "Class", "Nope", "x", "y", "z", "u", "v", "new", "self", "nil",
		"P\x00", "\xff\xfe", "é", "a b", " x", "x ", strings.Repeat("a", 32), strings.Repeat("a", 33),
		strings.Repeat("a", 96), strings.Repeat("a", 97), strings.Repeat("x", 1<<20), "1x", "x1", "X",
	}
}

// wantZero sees to it that beside a code of no source nothing else is told.
func wantZero(t *testing.T, r api.Refusal) {
	t.Helper()
	if r.Class == "" && r.Selector == "" && r.At != 0 || r.Code == api.OK && r != (api.Refusal{}) {
		t.Fatalf("Do = %+v", r)
	}
}

// P21.6: whatever names it is given.
func TestAllArguments(t *testing.T) {
	w := family(t)
	for _, name := range names() {
		for _, first := range names() {
			wantZero(t, reshape.Do(w.k, w.b, name, []string{first}))
			for _, second := range []string{"x", "y", "new", "", "\xff"} {
				wantZero(t, reshape.Do(w.k, w.b, name, []string{first, second}))
				wantZero(t, reshape.Do(w.k, w.b, name, []string{second, "y", first}))
			}
		}
		wantZero(t, reshape.Do(w.k, w.b, name, nil))
		wantZero(t, reshape.Do(w.k, w.b, name, names()))
		wantZero(t, reshape.Do(w.k, w.b, name, make([]string, 1<<16)))
		wantZero(t, reshape.Do(w.k, w.b, name, strings.Split(strings.Repeat("x", 5000), "")))
		wantZero(t, reshape.Do(w.k, w.b, name, fields(numbered("n", 5000))))
	}
}

// P21.6: kernels over spaces and tables in which there is no kernel.
func TestNoKernel(t *testing.T) {
	some, _ := space.New(1000, 100)
	crowned, _ := space.New(1000, 100)
	crowned.Alloc(4, 8, api.FormatWords)
	crowned.Crown(1)
	none, _ := space.New(0, 0)
	empty, _ := symbol.New(0)
	table, _ := symbol.New(100)
	table.Add("P")
	for _, s := range []*space.Space{some, crowned, none, new(space.Space)} {
		for _, l := range []*symbol.Table{empty, table, new(symbol.Table)} {
			k, e := class.Over(s, l)
			if e != api.OK {
				t.Fatalf("Over = %d", e)
			}
			b, _ := dict.New(k)
			for _, book := range []*dict.Book{b, new(dict.Book)} {
				if r := reshape.Do(k, book, "P", fields("x")); r != refused(api.ErrArg) {
					t.Fatalf("Do = %+v", r)
				}
			}
		}
	}
}

// spoil changes something in a world, at random.
func (w *world) spoil(r *rand.Rand) {
	h := w.k.Space().Heap()
	all := h.All()
	if len(all) == 0 {
		return
	}
	oop, i := all[r.Intn(len(all))], r.Intn(10)
	// Mostly of what was made behind the kernel.
	if r.Intn(3) > 0 && len(all) > 20 {
		oop = all[20+r.Intn(len(all)-20)]
	}
	x := api.Word(r.Intn(4*len(all)+20) - 10)
	switch r.Intn(12) {
	case 0:
		h.Free(oop)
	case 1:
		h.SetClass(oop, x)
	case 2:
		h.SetClass(oop, obj(w.some(r)))
	case 3:
		h.Exchange(oop, all[r.Intn(len(all))])
	case 4:
		w.k.Symbols().Back(r.Intn(w.k.Symbols().Count() + 1))
	case 5:
		h.Put(w.some(r), i, x)
	case 6:
		h.Put(w.some(r), api.ClassLayout, num(r.Intn(5)-2))
	case 7:
		h.Put(w.some(r), api.ClassMethods, obj(all[r.Intn(len(all))]))
	case 8:
		h.Put(w.some(r), api.ClassSelectors, obj(all[r.Intn(len(all))]))
	default:
		h.Put(oop, i, x)
	}
}

// some is the oop of a class that was made, if there is still one.
func (w *world) some(r *rand.Rand) int {
	oop, _ := w.k.Numbered(15 + r.Intn(4))
	return oop
}

// P21.6: Do ends, whatever lies in the heap; what is refused with a code of
// memory has left it as its collection did.
func TestSpoilt(t *testing.T) {
	r := rand.New(rand.NewSource(216))
	count := map[api.Errno]int{}
	for range 3000 {
		w := family(t)
		for range 1 + r.Intn(6) {
			w.spoil(r)
		}
		for range 3 {
			name := []string{"P", "P", "Q", "R", "S", "Object"}[r.Intn(6)]
			own := fields([]string{"y x", "x y new", "", "y z2 x", "a b c", "u2 z v2 v u"}[r.Intn(6)])
			w.k.Space().Heap().Mark(r.Intn(4) * r.Intn(10))
			before := w.reached()
			got := reshape.Do(w.k, w.b, name, own)
			wantZero(t, got)
			count[got.Code]++
			if got.Code != api.OK && w.reached() != before {
				t.Fatalf("Do(%q, %q) = %+v has changed something", name, own, got)
			}
			w.k.Space().Heap().Mark(0)
		}
	}
	for _, e := range []api.Errno{api.OK, api.ErrArg, api.ErrUnknown, api.ErrMarked} {
		if count[e] < 20 {
			t.Errorf("the answer %d came %d times: %v", e, count[e], count)
		}
	}
}
