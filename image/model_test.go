package image_test

import (
	"math/rand"
	"strings"
	"testing"

	"kiln/api"
	"kiln/image"
	"kiln/proc"
)

// judged holds Load's answer of a picture against the model's: the rule that it breaks.
func (p *picture) judged(t *testing.T) string {
	t.Helper()
	text, broken := p.text(), verdict(p)
	if broken != "" {
		refuses(t, broken, text)
		return broken
	}
	w := load(t, text)
	if !image.Sound(w.k) || w.save() != text {
		t.Fatalf("what was taken is not sound, or says another text: %q", cut(text))
	}
	return ""
}

// rulesMet says that some change kept to all rules, and that each rule was broken by one.
func rulesMet(t *testing.T, met map[string]int) {
	t.Helper()
	by := map[string]int{}
	for broken, n := range met {
		rule, _, _ := strings.Cut(broken, ":")
		by[rule] += n
		t.Log(n, broken)
	}
	for _, rule := range strings.Fields(" 1 2 3 4 5 6 7 8 9 10 11 12") {
		if by[rule] == 0 {
			t.Errorf("no change has broken the rule %s", rule)
		}
	}
	if by[""] == 0 {
		t.Error("no change has kept to all rules")
	}
}

// others is what a word is changed to.
func others(p *picture, r *rand.Rand, w int) []int {
	n := len(p.objects)
	return []int{
		0, 1, 3, 4, 8, 16, 72, 76, 80, 2, -1, w + 2, w - 2, w + 4, w - 4, 4 * (1 + r.Intn(n)), 4 * (1 + r.Intn(n)), 4*n + 4,
		2 + 4*r.Intn(len(p.symbols)), 2 + 4*len(p.symbols), 1 + 2*r.Intn(40), 1<<31 - 1, -1<<31 + 1, 1 << 31,
	}
}

// P23.3, P23.4: each word of an image, changed to others.
func TestEachWord(t *testing.T) {
	r := rand.New(rand.NewSource(23))
	p := pictured(rich(t).save())
	met := map[string]int{}
	for i := range p.objects {
		for k := -1; k < len(p.objects[i].slots); k++ {
			place := &p.objects[i].class
			if k >= 0 {
				place = &p.objects[i].slots[k]
			}
			was, list := *place, others(p, r, *place)
			for range 4 {
				*place = list[r.Intn(len(list))]
				met[p.judged(t)]++
			}
			*place = was
		}
	}
	rulesMet(t, met)
}

// change changes something in the heap at random: a slot, mostly to what
// another object has in the same slot, or what two objects are.
func (w *world) change(r *rand.Rand) {
	h := w.k.Space().Heap()
	list := h.All()
	one := func() int { return list[r.Intn(len(list))] }
	// Of the same class, mostly: so that much of it is nearly as it must be.
	like := func(a int) int {
		class, _ := h.Class(a)
		for range 200 {
			b := one()
			if c, _ := h.Class(b); c == class && b != a {
				return b
			}
		}
		return one()
	}
	a := one()
	n, format, _ := h.Size(a)
	b := like(a)
	switch {
	case r.Intn(12) == 0:
		h.Exchange(a, b)
	case r.Intn(30) == 0:
		c, _ := h.Class(one())
		h.SetClass(a, c)
	case n == 0:
	case format == api.FormatBytes:
		h.Put(a, r.Intn(n), api.Word(r.Intn(256)))
	default:
		i := r.Intn(n)
		was, _ := h.At(a, i)
		x, e := h.At(b, i)
		switch {
		case r.Intn(4) == 0:
			x = was + api.Word(2*(r.Intn(5)-2))
		case r.Intn(4) == 0 || e != api.OK:
			x = obj(one())
		case r.Intn(12) == 0:
			x = sym(r.Intn(w.k.Symbols().Count()))
		case r.Intn(12) == 0:
			x = null
		}
		h.Put(a, i, x)
	}
}

// changed changes a world's heap, and holds Sound and Load against the model;
// what is sound is taken by Load, and goes on as one that calls made.
func (w *world) changed(r *rand.Rand, changes int) string {
	w.t.Helper()
	for range changes {
		w.change(r)
	}
	was := w.seen()
	sound := image.Sound(w.k)
	if w.seen() != was {
		w.t.Fatal("Sound has changed something")
	}
	text := w.save()
	broken := verdict(pictured(text))
	if sound != (broken == "") {
		w.t.Fatalf("Sound = %v, the model says %q: %q", sound, broken, text)
	}
	if !sound {
		refuses(w.t, broken, text)
		return broken
	}
	v := load(w.t, text)
	w.same(v, "a changed heap")
	goOn(r, w, v)
	return ""
}

// P23.4, P23.5: kernels whose heap was changed.
func TestChangedHeaps(t *testing.T) {
	r := rand.New(rand.NewSource(234))
	text := rich(t).save()
	met := map[string]int{}
	for range 1500 {
		met[load(t, text).changed(r, 1+r.Intn(3))]++
	}
	rulesMet(t, met)
}

// P23.4, P23.5: the same, of worlds at random.
func TestChangedWorlds(t *testing.T) {
	for seed := range int64(16) {
		r := choosing(2340 + seed)
		w := peopled(t, 12000, 1500)
		for range 150 {
			w.do(r.act(w))
		}
		text := w.save()
		for range 8 {
			load(t, text).changed(r.Rand, 1)
		}
	}
}

// goOn lets two kernels that are alike go on, and sees to it that they stay so, and sound.
func goOn(r *rand.Rand, w, v *world) {
	w.t.Helper()
	for range 12 {
		var a api.Act
		switch r.Intn(7) {
		case 0:
			a = reshapes([]string{"P", "Q", "R", "E"}[r.Intn(4)], []string{"x y", "y x n", "z", "v", "u", ""}[r.Intn(6)])
		case 1:
			a = spawns([]string{"^G sum", "^H value: 3", "^J value: 4", "^I arguments", "^G twice", "^3 both: H"}[r.Intn(6)])
		default:
			a = runs(1+r.Intn(proc.Count(w.k)+1), r.Intn(15))
		}
		if got, want := v.do(a), w.do(a); got != want {
			w.t.Fatalf("%+v: %q, want %q", a, got, want)
		}
		if !image.Sound(w.k) || !image.Sound(v.k) {
			w.t.Fatalf("behind %+v it is not sound: %q", a, w.save())
		}
	}
	w.same(v, "what went on")
}
