package check_test

import (
	"math/rand"
	"reflect"
	"slices"
	"sync"
	"testing"

	"kiln/api"
	"kiln/check"
)

// roomy is a code whose lists have spare room, with something in it.
func roomy(c api.Code) api.Code {
	c.Words = append(slices.Clone(c.Words), 77, 78, 79)[: len(c.Words) : len(c.Words)+3]
	c.Literals = roomyLits(c.Literals)
	return c
}

func roomyLits(list []api.Lit) []api.Lit {
	out := make([]api.Lit, len(list), len(list)+2)
	for i, l := range list {
		l.Items = roomyLits(l.Items)
		out[i] = l
	}
	spare := out[:cap(out)]
	for i := len(list); i < len(spare); i++ {
		spare[i] = api.Lit{Kind: 99, Number: i}
	}
	return out
}

// spread is a code with its lists' spare room as part of them.
func spread(c api.Code) api.Code {
	c.Words = slices.Clone(c.Words[:cap(c.Words)])
	c.Literals = spreadLits(c.Literals)
	return c
}

func spreadLits(list []api.Lit) []api.Lit {
	list = slices.Clone(list[:cap(list)])
	for i := range list {
		list[i].Items = spreadLits(list[i].Items)
	}
	return list
}

// P11.5: what is handed in is left as it is, what lies behind its lists too.
func TestLeftAsItIs(t *testing.T) {
	dice := rand.New(rand.NewSource(14))
	for range 2000 {
		c, b := grow(dice)
		if dice.Intn(2) == 0 {
			c, b = spoil(dice, c, b)
		}
		c = roomy(c)
		was := spread(c)
		check.Check(c, b)
		list, _ := check.Depths(c, b)
		for i := range list[:cap(list)] {
			list[:cap(list)][i] = -9
		}
		if !reflect.DeepEqual(spread(c), was) {
			t.Fatalf("was %+v, is %+v", was, spread(c))
		}
	}
}

// P11.5: an answer is new memory each time, and what is behind a list is not seen.
func TestNewMemory(t *testing.T) {
	c := stacked(1, 1, 20)
	one, _ := check.Depths(c, bounds)
	other, _ := check.Depths(c, bounds)
	one[0], one[1] = 5, 6
	if !slices.Equal(other, words(0, 1)) {
		t.Fatalf("answers share memory: %v", other)
	}
	wantDepths(t, c, 0, 1)
	c.Words = words(1, 20, 0, 99)[:2]
	wantDepths(t, c, 0, 1)
	c.Words = words(5, 20, 20)[:1]
	wantCode(t, api.ErrOpcode, c)
	c.Words = words(19, 0, 0, 2, 2, 22, 20)[:6]
	wantCode(t, api.ErrEnd, c)
}

// P11.5: lists that are nil or empty mean the same.
func TestEmptyLists(t *testing.T) {
	wantCode(t, api.ErrEnd, api.Code{Words: []int{}, Literals: []api.Lit{}})
	wantCode(t, api.ErrEnd, api.Code{})
	wantLiterals(t, api.OK, api.Lit{Kind: api.LitArray, Items: []api.Lit{}}, api.Lit{Kind: api.LitArray})
	want(t, api.OK, stacked(1, 1, 20), api.Bounds{})
}

// P11.5: what is answered hangs on the arguments alone: calls at one time, and
// calls one behind the other, answer the same.
func TestSameAgain(t *testing.T) {
	dice := rand.New(rand.NewSource(15))
	type asked struct {
		c    api.Code
		b    api.Bounds
		list []int
		e    api.Errno
	}
	var cases []asked
	for range 300 {
		c, b := grow(dice)
		if dice.Intn(2) == 0 {
			c, b = spoil(dice, c, b)
		}
		list, e := check.Depths(c, b)
		cases = append(cases, asked{c, b, list, e})
	}
	var all sync.WaitGroup
	for worker := range 4 {
		all.Go(func() {
			for i := range cases {
				x := cases[(i*7+worker*31)%len(cases)]
				if list, e := check.Depths(x.c, x.b); e != x.e || !slices.Equal(list, x.list) || check.Check(x.c, x.b) != x.e {
					t.Errorf("%+v: %v, %d, then %v, %d", x.c, x.list, x.e, list, e)
				}
			}
		})
	}
	all.Wait()
}

// P11.4: the machine of these tests finds harm where a code does some.
func TestMachine(t *testing.T) {
	harmful := []api.Code{
		stacked(1, 15, 1, 20), stacked(1, 1), stacked(0, 1, 20), stacked(1, 23, 1, 5, 1, 20), stacked(1, 9, 2, 20),
		stacked(1, 8, 0, 20), stacked(1, 11, 1, 20), stacked(1, 7, 3, 20), stacked(1, 6, 0, 20), stacked(1, 10, 0, 0, 20),
		stacked(1, 10, 1, 0, 20), stacked(1, 1, 17, 2, 1, 20), stacked(1, 23, -2, 1, 20), stacked(1, 2, 26, 3),
		stacked(1, join(block(0, 0, 22), words(20))...), stacked(1, join(block(0, 0, 23, 0), words(1, 20))...),
	}
	for _, c := range harmful {
		if harmOf(rand.New(rand.NewSource(1)), c, bounds) == "" {
			t.Errorf("%v: no harm", c)
		}
		if check.Check(c, bounds) == api.OK {
			t.Errorf("%v: taken", c)
		}
	}
	if harm := harmOf(rand.New(rand.NewSource(1)), stacked(1, join(block(0, 0, 2, 22), words(20))...), bounds); harm != "" {
		t.Errorf("harm: %s", harm)
	}
}
