package prim_test

import (
	"slices"
	"testing"

	"kiln/api"
	"kiln/class"
)

// world is a kernel with some classes, and one object of each kind.
type world struct {
	k                      *class.Kernel
	pair, more, far, other int
	all                    map[api.Word]int // words, and their classes
	instances              map[api.Word]int // those that are instances, and how many slots they have
}

func newWorld(t *testing.T) world {
	t.Helper()
	k := booted(t, 4000, 400)
	w := world{k: k}
	w.pair = defined(t, k, "Pair", "Object", "x", "y")
	w.more = defined(t, k, "More", "Pair", "z")
	w.far = defined(t, k, "Far", "More")
	w.other = defined(t, k, "Other", "Object")
	w.instances = map[api.Word]int{
		laid(t, k, api.Object, 0):                             0,
		laid(t, k, w.pair, 0, num(7), 2):                      2,
		laid(t, k, w.more, 0, num(1), empty, null):            3,
		laid(t, k, w.far, 0, yes, obj(w.far), num(4)):         3,
		laid(t, k, w.other, 0):                                0,
		laid(t, k, api.Object, 0, num(1), num(2), num(3), no): 4,
	}
	w.all = map[api.Word]int{
		num(0): api.Integer, num(1): api.Integer, num(least): api.Integer, num(most): api.Integer, 2: api.Symbol, 16382: api.Symbol,
		null: api.UndefinedObject, yes: api.TrueClass, no: api.FalseClass, empty: api.Array, obj(api.Root): api.Array, obj(api.Object): api.Class,
		obj(api.Message): api.Class, obj(w.more): api.Class, str(t, k, ""): api.String, str(t, k, "abc"): api.String, array(t, k, num(1), null): api.Array,
		laid(t, k, api.Block, 0, null, null, null, num(0), num(2), num(2)): api.Block, laid(t, k, api.Message, 0, 2, empty): api.Message,
		laid(t, k, api.Method, 0, num(1)): api.Method, laid(t, k, api.Context, 0, num(2)): api.Context, laid(t, k, api.Process, 0, num(3)): api.Process,
	}
	for i := range w.instances {
		c, _ := k.Of(i)
		w.all[i] = c
	}
	return w
}

// P17.3: what is the same, and what is nil.
func TestSame(t *testing.T) {
	w := newWorld(t)
	for r := range w.all {
		for x := range w.all {
			want(t, w.k, api.Object, "==", truth(r == x), api.OK, r, x)
			want(t, w.k, api.Object, "=", truth(r == x), api.OK, r, x)
			want(t, w.k, api.Object, "~~", truth(r != x), api.OK, r, x)
		}
		want(t, w.k, api.Object, "isNil", truth(r == null), api.OK, r)
		want(t, w.k, api.Object, "notNil", truth(r != null), api.OK, r)
		want(t, w.k, api.Object, "yourself", r, api.OK, r)
	}
}

// P17.3: classes, and what is of them.
func TestClassOf(t *testing.T) {
	w := newWorld(t)
	above := func(c int) []int {
		switch c {
		case w.far:
			return []int{w.far, w.more, w.pair, api.Object}
		case w.more:
			return []int{w.more, w.pair, api.Object}
		}
		return []int{c, api.Object}
	}
	classes := []int{w.pair, w.more, w.far, w.other}
	for c := api.Object; c <= api.Message; c++ {
		classes = append(classes, c)
	}
	for r, of := range w.all {
		want(t, w.k, api.Object, "class", obj(of), api.OK, r)
		for _, c := range classes {
			want(t, w.k, api.Object, "isKindOf:", truth(slices.Contains(above(of), c)), api.OK, r, obj(c))
		}
		for x, is := range w.all {
			if is != api.Class {
				want(t, w.k, api.Object, "isKindOf:", 0, api.ErrPrim, r, x)
			}
		}
	}
}

// P17.3: the slots of instances, and of nothing else.
func TestInstVars(t *testing.T) {
	w := newWorld(t)
	for r := range w.all {
		n := w.instances[r]
		want(t, w.k, api.Object, "instVarSize", num(n), api.OK, r)
		was := seen(w.k)
		for _, i := range []int{least, -1, 0, n + 1, n + 2, 8192, most} {
			want(t, w.k, api.Object, "instVarAt:", 0, api.ErrIndex, r, num(i))
			want(t, w.k, api.Object, "instVarAt:put:", 0, api.ErrIndex, r, num(i), num(1))
		}
		for x, of := range w.all {
			if of != api.Integer {
				want(t, w.k, api.Object, "instVarAt:", 0, api.ErrPrim, r, x)
				want(t, w.k, api.Object, "instVarAt:put:", 0, api.ErrPrim, r, x, num(1))
			}
		}
		for i := range n {
			slot, _ := w.k.Space().Heap().At(int(r/4), i)
			want(t, w.k, api.Object, "instVarAt:", slot, api.OK, r, num(i+1))
		}
		if seen(w.k) != was {
			t.Fatal("something has changed")
		}
	}
}

// P17.3: what is put is there, and nothing else has changed.
func TestInstVarPut(t *testing.T) {
	w := newWorld(t)
	for r, n := range w.instances {
		for i := range n {
			for y := range w.all {
				before := w.k.Space().Heap().State()
				want(t, w.k, api.Object, "instVarAt:put:", y, api.OK, r, num(i+1), y)
				want(t, w.k, api.Object, "instVarAt:", y, api.OK, r, num(i+1))
				after := w.k.Space().Heap().State()
				for j, o := range after.Objects {
					slots := slices.Clone(before.Objects[j].Slots)
					if o.Oop == int(r/4) {
						slots[i] = y
					}
					if !slices.Equal(slots, o.Slots) {
						t.Fatalf("the object %d has %d, want %d", o.Oop, o.Slots, slots)
					}
				}
			}
		}
	}
}

// P17.3: copies of instances, strings and arrays; all else is its own copy.
func TestCopy(t *testing.T) {
	w := newWorld(t)
	h := w.k.Space().Heap()
	for r, of := range w.all {
		_, isInstance := w.instances[r]
		if !isInstance && of != api.String && (of != api.Array || r == empty) {
			was := seen(w.k)
			want(t, w.k, api.Object, "copy", r, api.OK, r)
			if seen(w.k) != was {
				t.Fatal("something has changed")
			}
			continue
		}
		had := h.State().Objects
		c := fresh(t, w.k, api.Object, "copy", r)
		now := h.State().Objects
		if len(now) != len(had)+1 {
			t.Fatalf("%d objects were made", len(now)-len(had))
		}
		for i, o := range had {
			if o.Oop == int(r/4) {
				wantObject(t, w.k, c, of, o.Format, o.Slots...)
			}
			if !slices.Equal(o.Slots, now[i].Slots) {
				t.Fatalf("the object %d became %d", o.Oop, now[i].Slots)
			}
		}
	}
}

// P17.3: a copy is an object of its own.
func TestCopyIsAnother(t *testing.T) {
	k := booted(t, 2000, 200)
	pair := defined(t, k, "Pair", "Object", "x", "y")
	a, s, p := array(t, k, num(1), num(2)), str(t, k, "ab"), laid(t, k, pair, 0, num(1), num(2))
	b, u, q := fresh(t, k, api.Object, "copy", a), fresh(t, k, api.Object, "copy", s), fresh(t, k, api.Object, "copy", p)
	want(t, k, api.Array, "at:put:", num(9), api.OK, b, num(1), num(9))
	want(t, k, api.String, "at:put:", num(99), api.OK, s, num(1), num(99))
	want(t, k, api.Object, "instVarAt:put:", num(9), api.OK, q, num(2), num(9))
	wantObject(t, k, a, api.Array, 0, num(1), num(2))
	wantObject(t, k, b, api.Array, 0, num(9), num(2))
	wantText(t, k, s, "cb")
	wantText(t, k, u, "ab")
	wantObject(t, k, p, pair, 0, num(1), num(2))
	wantObject(t, k, q, pair, 0, num(1), num(9))
	// The longest ones.
	big := booted(t, 30000, 100)
	long := laid(t, big, api.Array, 0, slices.Repeat([]api.Word{num(5)}, 8192)...)
	wantObject(t, big, fresh(t, big, api.Object, "copy", long), api.Array, 0, slices.Repeat([]api.Word{num(5)}, 8192)...)
}
