package plan_test

import (
	"fmt"
	"math"
	"math/rand"
	"reflect"
	"slices"
	"testing"

	"kiln/api"
	"kiln/plan"
)

// pick is one of a list.
func pick[T any](dice *rand.Rand, list ...T) T { return list[dice.Intn(len(list))] }

// some is up to that many names of a pool, all unlike, in any order.
func some(dice *rand.Rand, pool []string, most int) []string {
	var list []string
	for _, i := range dice.Perm(len(pool))[:dice.Intn(min(most, len(pool))+1)] {
		list = append(list, pool[i])
	}
	return list
}

// grown is a list that is well made: lines grow out of one another in any order.
func grown(dice *rand.Rand) []api.ClassInfo {
	var classes []api.ClassInfo
	pool := many("f", pick(dice, 4, 12, 40))
	long := dice.Intn(4) == 0
	for i := range 1 + dice.Intn(12) {
		c := api.ClassInfo{Name: fmt.Sprint("C", i), Layout: pick(dice, 0, 0, 0, 0, 3, api.MaxCount-1)}
		if dice.Intn(40) == 0 {
			c.Layout = api.MaxCount
		}
		var inherited []string
		if i > 0 && dice.Intn(8) > 0 {
			c.Super = classes[dice.Intn(i)].Name
			inherited = model{classes: classes}.fields(model{classes: classes}.called(c.Super))
		}
		free := slices.DeleteFunc(slices.Clone(pool), func(s string) bool { return slices.Contains(inherited, s) })
		most := 3
		if long {
			most = 12
		}
		c.Own = some(dice, free, most)
		classes = append(classes, c)
	}
	return classes
}

// spoilt is a list of which something may be wrong.
func spoilt(dice *rand.Rand, classes []api.ClassInfo) []api.ClassInfo {
	classes = slices.Clone(classes)
	c := &classes[dice.Intn(len(classes))]
	other := classes[dice.Intn(len(classes))]
	switch dice.Intn(8) {
	case 0:
		c.Name = pick(dice, "", other.Name, "é")
	case 1:
		c.Super = pick(dice, "", other.Name, "Nope", c.Name)
	case 2:
		c.Own = append(slices.Clone(c.Own), some(dice, many("f", 12), 3)...)
	case 3:
		c.Own = append(some(dice, other.Own, 2), c.Own...)
	case 4:
		c.Own = append(slices.Clone(c.Own), pick(dice, "", "X", "self", "f0 "))
	case 5:
		c.Layout = pick(dice, api.MaxCount, api.MaxCount+1, -1, math.MaxInt)
	case 6:
		dice.Shuffle(len(classes), func(i, j int) { classes[i], classes[j] = classes[j], classes[i] })
	case 7:
		c.Own = many("g", pick(dice, 30, 31, 32, 33))
	}
	return classes
}

// asked is a list of names for a class: its own ones over again, others, and what may not be.
func asked(dice *rand.Rand, classes []api.ClassInfo, place int) []string {
	own := slices.Clone(classes[place].Own)
	switch dice.Intn(6) {
	case 0:
	case 1:
		dice.Shuffle(len(own), func(i, j int) { own[i], own[j] = own[j], own[i] })
	case 2:
		own = some(dice, own, len(own))
	case 3:
		own = append(own, some(dice, many("n", 5), 5)...)
	case 4:
		own = append(some(dice, many("f", 12), 2), own...)
	case 5:
		own = append(own, many("n", pick(dice, 20, 28, 30, 31, 32, 33))...)
	}
	for dice.Intn(8) == 0 {
		at := dice.Intn(len(own) + 1)
		bad := pick(dice, "", "X", "super", "f 1", "é", "f0", "f1", "n0")
		own = slices.Insert(own, at, bad)
	}
	return own
}

// P20.2, P20.3: lists and questions at random answer what the model tells, and come to everything.
func TestRandom(t *testing.T) {
	dice := rand.New(rand.NewSource(20))
	seen := map[api.Errno]int{}
	none := 0
	for range 60000 {
		classes := grown(dice)
		for dice.Intn(4) == 0 {
			classes = spoilt(dice, classes)
		}
		place := dice.Intn(len(classes))
		name := classes[place].Name
		if dice.Intn(30) == 0 {
			name = pick(dice, "", "Nope", "C", "f0")
		}
		kernel := pick(dice, 0, 0, 0, dice.Intn(len(classes)+1), dice.Intn(len(classes)+3)-1)
		own := asked(dice, classes, place)
		changes, e := plan.Make(classes, kernel, name, own)
		want, code := told(classes, kernel, name, own)
		if e != code || text(changes) != text(want) || len(changes) != len(want) {
			t.Fatalf("Make(%+v, %d, %q, %q) = %s, %d; want %s, %d", classes, kernel, name, own, text(changes), e, text(want), code)
		}
		seen[e]++
		if e == api.OK && len(changes) == 0 {
			none++
		}
	}
	for _, e := range []api.Errno{api.OK, api.ErrArg, api.ErrClass, api.ErrKernel, api.ErrName, api.ErrDouble, api.ErrInherited, api.ErrBelow, api.ErrFields, api.ErrCount} {
		if seen[e] < 200 {
			t.Errorf("%d came %d times", e, seen[e])
		}
	}
	if none < 200 || len(seen) != 10 {
		t.Errorf("no change came %d times; %v", none, seen)
	}
}

// P20.4: one reshape behind the other, at random: each keeps what it must, and can be taken back.
func TestRandomRows(t *testing.T) {
	dice := rand.New(rand.NewSource(204))
	done := 0
	for range 1500 {
		classes := grown(dice)
		for i := range classes {
			classes[i].Layout = 0
		}
		for range 12 {
			place := dice.Intn(len(classes))
			name, own := classes[place].Name, asked(dice, classes, place)
			changes, e := plan.Make(classes, 0, name, own)
			if e != api.OK {
				continue
			}
			if !tooMany(classes) {
				wantFollows(t, classes, 0, name, own)
			}
			classes = behind(classes, name, own, changes)
			done++
		}
	}
	if done < 5000 {
		t.Errorf("only %d reshapes were made", done)
	}
}

// tooMany tells whether a class has more fields than may be: then no way leads back to the list.
func tooMany(classes []api.ClassInfo) bool {
	for i := range classes {
		if len((model{classes: classes}).fields(i)) > api.MaxFields {
			return true
		}
	}
	return false
}

// P20.5: the same question is answered alike, whatever was asked meanwhile.
func TestSameAgain(t *testing.T) {
	dice := rand.New(rand.NewSource(205))
	type question struct {
		classes []api.ClassInfo
		name    string
		own     []string
		changes []api.Change
		e       api.Errno
	}
	var all []question
	for range 500 {
		q := question{classes: grown(dice)}
		place := dice.Intn(len(q.classes))
		q.name, q.own = q.classes[place].Name, asked(dice, q.classes, place)
		q.changes, q.e = plan.Make(q.classes, 0, q.name, q.own)
		all = append(all, q)
	}
	for _, i := range dice.Perm(len(all)) {
		q := all[i]
		changes, e := plan.Make(q.classes, 0, q.name, q.own)
		if e != q.e || !reflect.DeepEqual(changes, q.changes) {
			t.Fatalf("%v, %d; then %v, %d", q.changes, q.e, changes, e)
		}
	}
}
