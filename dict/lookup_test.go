package dict_test

import (
	"slices"
	"strconv"
	"testing"

	"kiln/api"
	"kiln/class"
	"kiln/dict"
)

// P14.5: the first class from a class up, along a long way.
func TestLookupAlong(t *testing.T) {
	k, b := booted(t, 1<<16, 4000)
	foo := added(t, k, "foo")
	added(t, k, "bar")
	chain := []int{4}
	super := "Object"
	for i := range 242 {
		name := "C" + strconv.Itoa(i)
		chain = append(chain, defined(t, k, name, super))
		super = name
	}
	for _, c := range chain {
		wantLookup(t, b, c, foo, 0, 0)
	}
	// Classes of the kernel beside the way understand what Object has, and nothing else of it.
	for i, at := range []int{242, 100, 50, 0, 101, 49} {
		wantErr(t, "Put", b.Put(chain[at], "foo", i+1), api.OK)
		wantErr(t, "Put", b.Put(chain[at], "bar", 18), api.OK)
		wants := map[int]int{242: 1, 100: 2, 50: 3, 0: 4, 101: 5, 49: 6}
		m, in := 0, 0
		for j, c := range chain {
			if w := wants[j]; w > 0 && w <= i+1 {
				m, in = w, c
			}
			wantLookup(t, b, c, foo, m, in)
		}
		m, in = 0, 0
		if i >= 3 {
			m, in = 4, 4
		}
		for c := 5; c <= 17; c++ {
			wantLookup(t, b, c, foo, m, in)
		}
	}
	wantHits(t, b, 0)
}

// P14.5: one method in two classes, one class of two selectors; a class of the kernel.
func TestLookupTwo(t *testing.T) {
	k, b := booted(t, 2000, 200)
	p := defined(t, k, "P", "Object")
	q := defined(t, k, "Q", "P")
	foo, bar, zoo := added(t, k, "foo"), added(t, k, "bar"), added(t, k, "zoo")
	m := kept(t, k)
	for _, c := range []int{p, q} {
		wantErr(t, "Put", b.Put(c, "foo", m), api.OK)
	}
	wantErr(t, "Put", b.Put(p, "bar", m), api.OK)
	wantErr(t, "Put", b.Put(8, "zoo", m), api.OK)
	wantLookup(t, b, q, foo, m, q)
	wantLookup(t, b, p, foo, m, p)
	wantLookup(t, b, q, bar, m, p)
	wantLookup(t, b, 4, foo, 0, 0)
	wantLookup(t, b, 8, zoo, m, 8)
	wantLookup(t, b, 9, zoo, 0, 0)
	wantLookup(t, b, q, zoo, 0, 0)
	wantErr(t, "Remove", b.Remove(q, "foo"), api.OK)
	wantLookup(t, b, q, foo, m, p)
	wantErr(t, "Remove", b.Remove(p, "foo"), api.OK)
	wantLookup(t, b, q, foo, 0, 0)
	wantLookup(t, b, q, bar, m, p)
}

// P14.5, P14.6: numbers that are no symbol's: nothing is found, and they are asked like others.
func TestNoSymbol(t *testing.T) {
	k, b := booted(t, 1000, 100)
	foo := added(t, k, "foo")
	wantErr(t, "Put", b.Put(4, "foo", 18), api.OK)
	hits := 0
	for _, n := range append(slices.Clone(farInts), foo+1, api.MaxSymbols-1, api.MaxSymbols, foo-1<<32, foo+1<<32) {
		wantLookup(t, b, 4, n, 0, 0)
		wantHits(t, b, hits)
		wantLookup(t, b, 4, n, 0, 0)
		hits++
		wantHits(t, b, hits)
		wantLookup(t, b, 5, n, 0, 0)
		wantHits(t, b, hits)
	}
}

// P14.6: what is a hit, and what is none.
func TestHits(t *testing.T) {
	k, b := booted(t, 2000, 200)
	p := defined(t, k, "P", "Object")
	q := defined(t, k, "Q", "P")
	foo, bar := added(t, k, "foo"), added(t, k, "bar")
	wantErr(t, "Put", b.Put(p, "foo", 18), api.OK)
	hits := 0
	asked := func(fresh bool) {
		t.Helper()
		for _, c := range []int{4, p, q} {
			for _, n := range []int{foo, bar} {
				b.Lookup(c, n)
				if !fresh {
					hits++
				}
				wantHits(t, b, hits)
			}
		}
	}
	asked(true)
	asked(false)
	asked(false)
	b.Flush()
	wantHits(t, b, hits)
	asked(true)
	b.Flush()
	b.Flush()
	asked(true)
	for _, c := range []struct {
		what  string
		e     api.Errno
		do    func() api.Errno
		fresh bool
	}{
		{"At", 0, func() api.Errno { b.Selectors(p); _, e := b.At(p, "foo"); return e }, false},
		{"Put of no class", api.ErrClass, func() api.Errno { return b.Put(1, "foo", 18) }, false},
		{"Put of no symbol", api.ErrSymbol, func() api.Errno { return b.Put(p, "no", 18) }, false},
		{"Put of no method", api.ErrOop, func() api.Errno { return b.Put(p, "foo", 99) }, false},
		{"Put", api.ErrMarked, func() api.Errno { k.Space().Heap().Mark(2); return b.Put(p, "bar", 18) }, false},
		{"Remove", api.ErrSelector, func() api.Errno { return b.Remove(q, "foo") }, false},
		{"Remove of no class", api.ErrClass, func() api.Errno { return b.Remove(0, "foo") }, false},
		{"Put", 0, func() api.Errno { return b.Put(4, "foo", 18) }, true},
		{"Put again", 0, func() api.Errno { return b.Put(4, "foo", 18) }, true},
		{"Put of another class", 0, func() api.Errno { return b.Put(17, "bar", 18) }, true},
		{"Put", 0, func() api.Errno { return b.Put(17, "foo", 18) }, true},
		{"Remove", api.ErrMarked, func() api.Errno { k.Space().Heap().Mark(1); return b.Remove(17, "bar") }, false},
		{"Remove", 0, func() api.Errno { return b.Remove(17, "bar") }, true},
		{"Remove of the last", 0, func() api.Errno { return b.Remove(17, "foo") }, true},
		{"Define", 0, func() api.Errno { _, e := k.Define("R", "Q", []string{"x"}); return e }, false},
		{"Global", 0, func() api.Errno { return k.Global("G") }, false},
		{"Collect", 0, func() api.Errno { _, _, e := k.Space().Collect(); return e }, false},
	} {
		wantErr(t, c.what, c.do(), c.e)
		asked(c.fresh)
	}
}

// P14.6: a new class needs no Flush, though its oop was asked while it was no class.
func TestDefine(t *testing.T) {
	k, b := booted(t, 1000, 100)
	foo := added(t, k, "foo")
	wantErr(t, "Put", b.Put(4, "foo", 18), api.OK)
	k.Space().Collect()
	was := k.Space().Heap().All()
	for oop := range 40 {
		if oop < 4 || oop > 17 {
			wantLookup(t, b, oop, foo, 0, 0)
		}
	}
	p := defined(t, k, "P", "Object")
	if slices.Contains(was, p) || p >= 40 {
		t.Fatalf("P is %d", p)
	}
	wantLookup(t, b, p, foo, 18, 4)
	wantHits(t, b, 0)
	wantLookup(t, b, p, foo, 18, 4)
	wantHits(t, b, 1)
	// One that was refused is no class, whatever lies there.
	k.Space().Heap().Mark(2)
	if _, e := k.Define("Q", "P", nil); e != api.ErrMarked {
		t.Fatalf("Define = %d", e)
	}
	for oop := p + 1; oop < 60; oop++ {
		wantLookup(t, b, oop, foo, 0, 0)
	}
	wantHits(t, b, 1)
	q := defined(t, k, "Q", "P")
	wantLookup(t, b, q, foo, 18, 4)
	wantHits(t, b, 1)
}

// P14.6: behind other changes, and a Flush, what lies in the heap is answered;
// also where a superclass has a higher number.
func TestOtherChanges(t *testing.T) {
	k, b := booted(t, 2000, 200)
	p := defined(t, k, "P", "Object")
	q := defined(t, k, "Q", "P")
	r := defined(t, k, "R", "Object")
	foo := added(t, k, "foo")
	bar := added(t, k, "bar")
	wantErr(t, "Put", b.Put(p, "foo", 18), api.OK)
	wantErr(t, "Put", b.Put(r, "foo", 19), api.OK)
	wantErr(t, "Put", b.Put(r, "bar", 20), api.OK)
	wantLookup(t, b, q, foo, 18, p)
	h := k.Space().Heap()
	h.Put(q, api.ClassSuper, api.Word(4*r))
	b.Flush()
	wantLookup(t, b, q, foo, 19, r)
	wantLookup(t, b, q, bar, 20, r)
	w, _ := h.At(r, api.ClassMethods)
	h.Put(int(w)/4, 1, 12)
	b.Flush()
	wantLookup(t, b, q, foo, 3, r)
	wantAt(t, b, r, "foo", 3, api.OK)
	h.Put(r, api.ClassSelectors, 4*api.Empty)
	h.Put(r, api.ClassMethods, 4*api.Empty)
	b.Flush()
	wantLookup(t, b, q, foo, 0, 0)
	h.Put(r, api.ClassSuper, api.Word(4*p))
	b.Flush()
	wantLookup(t, b, q, foo, 18, p)
	wantHits(t, b, 0)
}

// P14.6: a number is a symbol's, or is not, as the table says now.
func TestSymbolsComeAndGo(t *testing.T) {
	k, b := booted(t, 1000, 100)
	foo := k.Symbols().Count()
	wantLookup(t, b, 4, foo, 0, 0)
	added(t, k, "foo")
	wantLookup(t, b, 4, foo, 0, 0)
	wantHits(t, b, 1)
	wantErr(t, "Put", b.Put(4, "foo", 18), api.OK)
	for i := range 3 {
		wantLookup(t, b, 4, foo, 18, 4)
		k.Symbols().Back(foo)
		wantLookup(t, b, 4, foo, 0, 0)
		wantAt(t, b, 4, "foo", 0, api.ErrSelector)
		wantAt(t, b, 4, "", 0, api.ErrSelector)
		wantErr(t, "Remove", b.Remove(4, ""), api.ErrSelector)
		added(t, k, "foo")
		wantHits(t, b, 2+2*i)
	}
	b.Flush()
	k.Symbols().Back(foo)
	wantLookup(t, b, 4, foo, 0, 0)
	added(t, k, "foo")
	wantLookup(t, b, 4, foo, 18, 4)
}

// P14.7: of two books each sees what the other puts behind its own Flush, or its own Put.
func TestTwoBooks(t *testing.T) {
	k, b := booted(t, 1000, 100)
	foo := added(t, k, "foo")
	added(t, k, "bar")
	over, _ := class.Over(k.Space(), k.Symbols())
	c := newBook(t, over)
	see := func(x *dict.Book, want int) {
		t.Helper()
		x.Flush()
		in := 4
		if want == 0 {
			in = 0
		}
		wantLookup(t, x, 4, foo, want, in)
	}
	see(b, 0)
	see(c, 0)
	wantErr(t, "Put", b.Put(4, "foo", 18), api.OK)
	wantAt(t, c, 4, "foo", 18, api.OK)
	wantSelectors(t, c, 4, "foo")
	see(c, 18)
	wantErr(t, "Put", c.Put(4, "foo", 19), api.OK)
	wantAt(t, b, 4, "foo", 19, api.OK)
	wantErr(t, "Put", b.Put(4, "bar", 20), api.OK)
	wantLookup(t, b, 4, foo, 19, 4)
	wantErr(t, "Remove", c.Remove(4, "foo"), api.OK)
	wantAt(t, b, 4, "foo", 0, api.ErrSelector)
	see(b, 0)
	wantErr(t, "Remove", b.Remove(4, "bar"), api.OK)
	wantDictionary(t, k, c, 4, nil)
	wantHits(t, b, 0)
	wantHits(t, c, 0)
	// Till its Flush a book answers what it found, or did not find, from its cache.
	see(b, 0)
	wantErr(t, "Put", c.Put(4, "foo", 18), api.OK)
	wantLookup(t, b, 4, foo, 0, 0)
	see(b, 18)
	wantErr(t, "Remove", c.Remove(4, "foo"), api.OK)
	wantLookup(t, b, 4, foo, 18, 4)
	see(b, 0)
	wantHits(t, b, 2)
}

// M5: what is found lives, and is found behind every collection.
func TestCollect(t *testing.T) {
	k, b := booted(t, 1000, 100)
	p := defined(t, k, "P", "Object")
	foo := added(t, k, "foo")
	m := loose(t, k, 5)
	wantErr(t, "Put", b.Put(p, "foo", m), api.OK)
	wantLookup(t, b, p, foo, m, p)
	for range 3 {
		k.Space().Alloc(4, 400, 0)
		k.Space().Collect()
		wantLookup(t, b, p, foo, m, p)
		if n, f, e := k.Space().Heap().Size(m); n != 5 || f != 1 || e != api.OK {
			t.Fatalf("the method has %d, %d, %d", n, f, e)
		}
	}
	// What was removed is garbage, and so are the lists.
	words, oops := k.Space().Room()
	wantErr(t, "Remove", b.Remove(p, "foo"), api.OK)
	if w, o := k.Space().Room(); w != words+4+6 || o != oops+3 {
		t.Fatalf("Room = %d, %d, was %d, %d", w, o, words, oops)
	}
	wantLookup(t, b, p, foo, 0, 0)
}
