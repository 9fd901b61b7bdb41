package image_test

import (
	"math/rand"
	"testing"

	"kiln/api"
	"kiln/class"
	"kiln/image"
	"kiln/space"
	"kiln/symbol"
)

// P23.1: kernels over spaces and tables in which there is no kernel.
func TestNoKernel(t *testing.T) {
	none, _ := space.New(0, 0)
	some, _ := space.New(1000, 100)
	crowned, _ := space.New(1000, 100)
	crowned.Alloc(4, 8, api.FormatWords)
	crowned.Crown(1)
	wide, _ := space.New(1000, 100)
	for range 30 {
		wide.Alloc(4, 8, api.FormatBytes)
	}
	wide.Crown(api.Root)
	empty, _ := symbol.New(0)
	table, _ := symbol.New(100)
	table.Add("P")
	w := rich(t)
	for _, s := range []*space.Space{none, some, crowned, wide, new(space.Space), w.k.Space()} {
		for _, l := range []*symbol.Table{empty, table, new(symbol.Table), w.k.Symbols()} {
			if s == w.k.Space() && l == w.k.Symbols() {
				continue
			}
			k, e := class.Over(s, l)
			if e != api.OK {
				t.Fatalf("Over = %d", e)
			}
			if image.Sound(k) {
				t.Fatal("it is sound")
			}
			text, e := image.Save(k)
			if e != api.OK && text != "" {
				t.Fatalf("Save = %q, %d", text, e)
			}
			refuses(t, "no kernel", text)
		}
	}
	if !image.Sound(w.k) {
		t.Fatal("the rich world is not sound any more")
	}
}

// spoil does something to a heap that no layer does.
func (w *world) spoil(r *rand.Rand) {
	h := w.k.Space().Heap()
	list := h.All()
	a, b := list[r.Intn(len(list))], list[r.Intn(len(list))]
	words := []api.Word{num(r.Intn(9)), num(-1), num(1<<30 - 1), sym(r.Intn(60)), obj(b), obj(1 + r.Intn(900)), obj(65536), null, empty}
	n, _, _ := h.Size(a)
	switch r.Intn(7) {
	case 0:
		h.Free(a)
	case 1:
		h.SetClass(a, words[r.Intn(len(words))])
	case 2:
		h.Exchange(a, b)
	case 3:
		h.Exchange(a, api.Nil+r.Intn(30))
	case 4:
		w.k.Symbols().Back(w.k.Symbols().Count() - min(w.k.Symbols().Count(), r.Intn(3)))
	default:
		h.Put(a, r.Intn(n+1), words[r.Intn(len(words))])
	}
}

// P23.1, P23.4: spoilt heaps: no call panics, Sound changes nothing, and what is
// sound alone is taken back.
func TestSpoiltHeaps(t *testing.T) {
	r := rand.New(rand.NewSource(231))
	text := rich(t).save()
	sound := 0
	for range 1500 {
		w := load(t, text)
		for range 1 + r.Intn(40)*r.Intn(2) {
			w.spoil(r)
		}
		was := w.seen()
		there := image.Sound(w.k)
		if w.seen() != was {
			t.Fatal("Sound has changed something")
		}
		saved, e := image.Save(w.k)
		if e != api.OK {
			t.Fatalf("Save = %d", e)
		}
		if _, e = image.Load(saved); (e == api.OK) != there {
			t.Fatalf("Sound = %v, Load = %d of %q", there, e, saved)
		}
		if there {
			sound++
		}
	}
	if sound == 0 {
		t.Fatal("nothing was sound")
	}
}
