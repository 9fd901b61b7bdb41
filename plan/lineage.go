package plan

import "kiln/api"

// lineage is a list of classes that is well made. Its places count from 0 on.
type lineage struct {
	classes []api.ClassInfo
	above   []int                 // of each class the place of its superclass, -1: it has none
	find    func(name string) int // the place of the class of that name, -1: there is none
}

// lineageOf is the lineage of a list; false: the list is not well made.
func lineageOf(classes []api.ClassInfo) (lineage, bool) {
	find := finder(classes, func(c api.ClassInfo) string { return c.Name })
	above := make([]int, len(classes))
	for place, c := range classes {
		if c.Name == "" || find(c.Name) != place {
			return lineage{}, false
		}
		above[place] = -1
		if c.Super == "" {
			continue
		}
		above[place] = find(c.Super)
		if above[place] < 0 || above[place] >= place {
			return lineage{}, false
		}
	}
	l := lineage{classes, above, find}
	return l, !l.repeats()
}

// repeats tells whether a class has a field twice. It goes through the classes
// family by family: till a family's end its first class's names are taken.
// (To gather each class's fields would take a long line's length squared.)
func (l lineage) repeats() bool {
	taken := map[string]int{}
	order, sizes := l.families()
	for i, place := range order {
		for _, s := range l.classes[place].Own {
			if i < taken[s] {
				return true
			}
			taken[s] = i + sizes[place]
		}
	}
	return false
}

// families is the places in such an order that behind each class come its
// descendants ahead of all others, and of each class how many it and these are.
func (l lineage) families() (order, sizes []int) {
	sizes = make([]int, len(l.above))
	// A superclass stands ahead: going backward, all below a class are counted when it is come to.
	for place := len(l.above) - 1; place >= 0; place-- {
		sizes[place]++
		if up := l.above[place]; up >= 0 {
			sizes[up] += sizes[place]
		}
	}
	order = make([]int, len(l.above))
	// Of the class at a place it stands one further on where its next subclass's
	// family begins, so that the first is of those without a superclass.
	next := make([]int, len(l.above)+1)
	for place, up := range l.above {
		begins := next[up+1]
		order[begins] = place
		next[place+1] = begins + 1
		next[up+1] = begins + sizes[place]
	}
	return order, sizes
}

// under is a class and its descendants, by rising places.
func (l lineage) under(place int) []int {
	in := make([]bool, len(l.classes))
	in[place] = true
	list := []int{place}
	for below := place + 1; below < len(l.classes); below++ {
		if up := l.above[below]; up >= 0 && in[up] {
			in[below] = true
			list = append(list, below)
		}
	}
	return list
}

// gatherer gives the function that gathers all fields of the class at a place,
// each time into a new list; of -1 there are none.
func (l lineage) gatherer() func(place int) []string {
	// Classes without names of their own are left out, so that a long line of
	// them is not gone up for each class below it.
	source := make([]int, len(l.above))
	for place, up := range l.above {
		if up >= 0 && len(l.classes[up].Own) == 0 {
			up = source[up]
		}
		source[place] = up
	}
	var gather func(place int) []string
	gather = func(place int) []string {
		if place < 0 {
			return nil
		}
		return append(gather(source[place]), l.classes[place].Own...)
	}
	return gather
}
