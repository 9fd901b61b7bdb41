package inspect_test

import (
	"math/rand"
	"slices"
	"strings"
	"testing"

	"kiln/api"
	"kiln/class"
)

// built is a world that was made of a graph, and its nodes' words.
type built struct {
	*world
	words map[*node]api.Word
}

// litter makes objects that nobody needs, and lets some collections be.
func (w *world) litter(r *rand.Rand) {
	for range r.Intn(4) {
		w.k.Space().Alloc(obj(api.Array), r.Intn(5), 0)
	}
	if r.Intn(40) == 0 {
		w.k.Space().Collect()
	}
}

// build makes a graph's objects in an order at random, among others.
func build(t *testing.T, r *rand.Rand, g *graph, words, oops int) built {
	t.Helper()
	b := built{booted(t, words, oops), map[*node]api.Word{}}
	for range r.Intn(20) {
		b.symbol(strings.Repeat("s", 1+r.Intn(30)))
	}
	if r.Intn(2) == 0 {
		b.class("Zed", "Object", "y x")
	}
	b.class("P", "Object", "x y")
	b.litter(r)
	b.class("Q", "P", "z")
	for _, i := range r.Perm(len(g.nodes)) {
		b.litter(r)
		b.words[g.nodes[i]] = b.lay(g.nodes[i])
	}
	for _, n := range g.nodes {
		for i, v := range n.slots {
			b.put(b.words[n], i, b.word(v))
		}
	}
	for _, h := range g.globals {
		b.litter(r)
		b.global(h.name, b.word(h.value))
	}
	b.k.Space().Drop(len(b.k.Space().Kept()))
	if r.Intn(2) == 0 {
		b.k.Space().Collect()
	}
	return b
}

// lay makes a node's object, whose slots are still to be filled.
func (b built) lay(n *node) api.Word {
	if n.class == "String" {
		return b.str(n.bytes)
	}
	c, e := b.k.Find(n.class)
	if e != api.OK {
		b.t.Fatalf("Find(%q) = %d", n.class, e)
	}
	return b.laid(c, 0, slices.Repeat([]api.Word{null}, len(n.slots))...)
}

func (b built) word(v value) api.Word {
	switch {
	case v.to != nil:
		return b.words[v.to]
	case v.kind == integer:
		return num(v.number)
	case v.kind == symbol:
		return b.symbol(v.text)
	}
	if i := slices.Index([]string{"nil", "false", "true"}, v.text); i >= 0 {
		return obj(i + 1)
	}
	c, _ := b.k.Find(v.text)
	return obj(c)
}

func (b built) wantText(want string) {
	b.t.Helper()
	was := b.seen()
	if got := b.text(); got != want {
		b.t.Fatalf("Text = %q, want %q", got, want)
	}
	if b.seen() != was {
		b.t.Fatal("Text has changed something")
	}
}

// P22.1, P22.3: graphs at random, each laid into two worlds in other orders,
// with other symbols, classes, objects and collections beside it.
func TestGraphs(t *testing.T) {
	r := rand.New(rand.NewSource(22))
	for i := range 600 {
		g := random(r, r.Intn(3+i/10))
		for range 2 {
			b := build(t, r, g, 20000, 1200)
			b.wantText(g.text())
			b.k.Space().Collect()
			b.wantText(g.text())
		}
	}
}

// P22.1: the same of more nodes than there are labels.
func TestLargeGraphs(t *testing.T) {
	r := rand.New(rand.NewSource(23))
	more := 0
	for range 12 {
		g := random(r, 3000+r.Intn(3000))
		wide := &node{class: "Array"}
		for _, n := range g.nodes[:500+r.Intn(2000)] {
			wide.slots = append(wide.slots, value{to: n})
		}
		g.nodes = append(g.nodes, wide)
		g.globals = append(g.globals, held{"Last", value{to: wide}}, held{"Over", g.value(r)})
		if strings.HasSuffix(g.text(), "\nmore\n") {
			more++
		}
		b := build(t, r, g, 400000, 40000)
		b.wantText(g.text())
	}
	if more == 0 || more == 12 {
		t.Fatalf("of 12 graphs %d have more nodes than there are labels", more)
	}
}

// P22.2: of each node of a graph.
func TestGraphValues(t *testing.T) {
	r := rand.New(rand.NewSource(24))
	for range 100 {
		g := random(r, r.Intn(30))
		b := build(t, r, g, 20000, 1200)
		for _, h := range g.globals {
			if h.to != nil {
				b.value(b.word(h.value), h.to.alone())
			} else {
				b.value(b.word(h.value), h.form())
			}
		}
	}
}

// change puts another value that needs no label into a slot of a node, or
// another byte into a string; false: there was none to be changed.
func (b built) change(r *rand.Rand, n *node) bool {
	x := b.words[n]
	if n.class == "String" && n.bytes != "" {
		list := []byte(n.bytes)
		i := r.Intn(len(list))
		list[i] += byte(1 + r.Intn(255))
		n.bytes = string(list)
		b.put(x, i, api.Word(list[i]))
		return true
	}
	if len(n.slots) == 0 {
		return false
	}
	i := r.Intn(len(n.slots))
	if n.class == "Block" && r.Intn(2) == 0 {
		i = api.BlockParams
	}
	v := plainValue(r)
	if n.class == "Block" && i == api.BlockParams {
		v = value{kind: integer, number: r.Intn(9)}
	}
	if n.slots[i].to != nil || n.slots[i] == v {
		return false
	}
	n.slots[i] = v
	b.put(x, i, b.word(v))
	return true
}

// isTold tells whether a slot of a node that was changed is told.
func (n *node) isTold(was []value) bool {
	if n.class == "Block" {
		return n.slots[api.BlockParams] != was[api.BlockParams]
	}
	return n.class == "String" || n.isGoneThrough()
}

// P22.3: one slot that is told holds something else, and the text is another
// one; one that is not told, and the text is the same.
func TestChanges(t *testing.T) {
	r := rand.New(rand.NewSource(25))
	told, untold := 0, 0
	for range 400 {
		g := random(r, 1+r.Intn(30))
		g.globals = append(g.globals, held{"Last", value{to: g.nodes[0]}})
		b := build(t, r, g, 20000, 1200)
		_, label := g.labels()
		for range 5 {
			was := g.text()
			n := g.nodes[r.Intn(len(g.nodes))]
			slots := slices.Clone(n.slots)
			if label[n] == 0 || !b.change(r, n) {
				continue
			}
			now := b.text()
			if n.isTold(slots) == (now == was) {
				t.Fatalf("a %s was changed, and the text that was %q is %q", n.class, was, now)
			}
			b.wantText(g.text())
			if now != was {
				told++
			} else {
				untold++
			}
		}
	}
	if told < 100 || untold < 30 {
		t.Fatalf("%d changes were told, %d were not", told, untold)
	}
}

// P22.3: a global that holds something else.
func TestGlobalChanges(t *testing.T) {
	r := rand.New(rand.NewSource(26))
	for range 300 {
		g := random(r, r.Intn(10))
		if len(g.globals) == 0 {
			continue
		}
		b := build(t, r, g, 20000, 1200)
		i, v, was := r.Intn(len(g.globals)), plainValue(r), b.text()
		same := g.globals[i].value == v
		g.globals[i].value = v
		b.hold(i, b.word(v))
		if now := b.text(); (now == was) != same || now != g.text() {
			t.Fatalf("the text that was %q is %q, want %q", was, now, g.text())
		}
	}
}

// P22.3: nothing is changed: no room is asked for, no mark is used up, nothing
// is collected, no bracket stands in the way.
func TestNothingIsChanged(t *testing.T) {
	w := booted(t, 1000, 60)
	p := w.class("P", "Object", "x y")
	s := w.str("held")
	w.global("G", w.laid(p, 0, s, w.array(s, num(1))))
	want := []string{"G = @1", "@1 P x=@2 y=@3", "@2 String 'held'", "@3 Array (@2 1)"}
	w.k.Space().Heap().Mark(1)
	w.tells(want...)
	w.value(s, "'held'")
	if m := w.k.Space().Heap().Marked(); m != 1 {
		t.Fatalf("the mark is %d", m)
	}
	w.k.Space().Heap().Mark(0)
	for {
		if _, e := w.k.Space().Heap().Alloc(obj(api.Array), 3, 0); e != api.OK {
			break
		}
	}
	w.tells(want...)
	w.value(s, "'held'")
	if e := w.k.Space().Begin(); e != api.OK {
		t.Fatalf("Begin = %d", e)
	}
	made := w.str("in the bracket")
	w.hold(0, made)
	w.tells("G = @1", "@1 String 'in the bracket'")
	w.value(made, "'in the bracket'")
	w.hold(0, s)
	if e := w.k.Space().Abort(); e != api.OK {
		t.Fatalf("Abort = %d", e)
	}
	w.tells("G = @1", "@1 String 'held'")
}

// R5: two kernels have nothing in common, and another one over the same space tells the same.
func TestKernels(t *testing.T) {
	a, b := booted(t, 1000, 100), booted(t, 1000, 100)
	a.global("G", a.str("a"))
	b.global("H", num(1))
	a.tells("G = @1", "@1 String 'a'")
	b.tells("H = 1")
	over, e := class.Over(a.k.Space(), a.k.Symbols())
	if e != api.OK {
		t.Fatalf("Over = %d", e)
	}
	c := &world{t, over, nil}
	c.tells("G = @1", "@1 String 'a'")
	c.hold(0, no)
	a.tells("G = false")
}
