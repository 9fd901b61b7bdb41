package listing_test

import (
	"math/rand"
	"reflect"
	"sync"
	"testing"

	"kiln/api"
	"kiln/listing"
)

// withRoom is a code whose lists have spare room, with something in it.
func withRoom(c api.Code) api.Code {
	c = plain(c)
	c.Words = append(c.Words, -7, 99)[:len(c.Words)]
	c.Literals = litsWithRoom(c.Literals)
	return c
}

func litsWithRoom(list []api.Lit) []api.Lit {
	for i := range list {
		list[i].Items = litsWithRoom(list[i].Items)
	}
	return append(list, api.Lit{Kind: 77, Text: "spare"})[:len(list)]
}

// whole is a code with its lists' spare room as part of them.
func whole(c api.Code) api.Code {
	c.Words = append([]int(nil), c.Words[:cap(c.Words)]...)
	c.Literals = wholeLits(c.Literals)
	return c
}

func wholeLits(list []api.Lit) []api.Lit {
	list = append([]api.Lit(nil), list[:cap(list)]...)
	for i := range list {
		list[i].Items = wholeLits(list[i].Items)
	}
	return list
}

// P12.4: what is handed in is left as it is, what lies behind its lists too, and
// is not told.
func TestLeftAsItIs(t *testing.T) {
	g := &grower{Rand: rand.New(rand.NewSource(3))}
	for range 2000 {
		c := g.code()
		if len(c.Literals) > 0 && g.Intn(2) == 0 {
			g.spoil(&c.Literals[0])
		}
		want, wantErr := listing.Print(c)
		roomy := withRoom(c)
		was := whole(roomy)
		got, e := listing.Print(roomy)
		if got != want || e != wantErr {
			t.Fatalf("%+v: %q, %d, want %q, %d", c, got, e, want, wantErr)
		}
		if !reflect.DeepEqual(whole(roomy), was) {
			t.Fatalf("was %+v, is %+v", was, whole(roomy))
		}
	}
}

// fill puts something into every place of a code's lists, spare room too.
func fill(c api.Code) {
	for i := range c.Words[:cap(c.Words)] {
		c.Words[:cap(c.Words)][i] = -77
	}
	fillLits(c.Literals)
}

func fillLits(list []api.Lit) {
	list = list[:cap(list)]
	for i := range list {
		fillLits(list[i].Items)
	}
	for i := range list {
		list[i] = api.Lit{Kind: -77}
	}
}

// P12.4: lists in an answer are new memory each time.
func TestNewMemory(t *testing.T) {
	g := &grower{Rand: rand.New(rand.NewSource(4))}
	for range 2000 {
		c := g.code()
		s, e := listing.Print(c)
		if e != api.OK {
			t.Fatalf("%+v: %d", c, e)
		}
		one, _, _ := listing.Parse(s)
		other, _, _ := listing.Parse(s)
		fill(one)
		if !same(other, c) {
			t.Fatalf("two answers share a list: %+v, was %+v", other, c)
		}
	}
}

// P12.4: no two lists of one answer share memory, their spare room neither.
func TestListsApart(t *testing.T) {
	s := behind("array (1 (2 3 4) (5 6 (7 8 9)))", "array (1 2 3)", "text 'a'", "0 int 1", "2 int 2", "4 self")
	listsOf := func(c api.Code) [][]api.Lit {
		inner := c.Literals[0].Items
		return [][]api.Lit{c.Literals, inner, inner[1].Items, inner[2].Items, inner[2].Items[2].Items, c.Literals[1].Items}
	}
	want, _, e := listing.Parse(s)
	if e != api.OK {
		t.Fatalf("no listing: %d", e)
	}
	for i := range listsOf(want) {
		got, _, _ := listing.Parse(s)
		list := listsOf(got)[i]
		spare := list[len(list):cap(list)]
		for k := range spare {
			spare[k] = api.Lit{Kind: -77}
		}
		if !same(got, want) {
			t.Fatalf("list %d is not by itself: %+v", i, got)
		}
	}
	for i, list := range listsOf(want) {
		for k, other := range listsOf(want) {
			if i != k && &list[0] == &other[0] {
				t.Fatalf("lists %d and %d are one", i, k)
			}
		}
	}
}

// P12.4: what is answered hangs on the arguments alone: calls at one time, and
// calls one behind the other, answer the same.
func TestSameAgain(t *testing.T) {
	g := &grower{Rand: rand.New(rand.NewSource(5))}
	var codes []api.Code
	var texts []string
	for range 200 {
		c := g.code()
		s, e := listing.Print(c)
		if e != api.OK {
			t.Fatalf("%+v: %d", c, e)
		}
		codes, texts = append(codes, c), append(texts, s)
	}
	var workers sync.WaitGroup
	for worker := range 4 {
		workers.Go(func() {
			for i := range codes {
				i = (i*7 + worker*31) % len(codes)
				s, _ := listing.Print(codes[i])
				c, line, e := listing.Parse(texts[i])
				if s != texts[i] || line != 0 || e != api.OK || !same(c, codes[i]) {
					t.Errorf("%q, then %q; %d, %d", texts[i], s, line, e)
				}
				if _, line, _ := listing.Parse(texts[i] + "x"); line < 2 {
					t.Errorf("%q: line %d", texts[i], line)
				}
			}
		})
	}
	workers.Wait()
}
