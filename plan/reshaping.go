package plan

import (
	"slices"

	"kiln/api"
)

// reshaping is a lineage one of whose classes is to get other names of its own.
type reshaping struct {
	lineage
	own           []string
	named         func(name string) int    // where in own a name stands first, -1: nowhere
	family        []int                    // the class's place, and its descendants'
	ahead, behind func(place int) []string // all fields of a class, ahead of the reshape and behind it
}

// reshapingOf is what is to come if the class at a place gets these names.
func reshapingOf(l lineage, place int, own []string) *reshaping {
	other := l
	other.classes = slices.Clone(l.classes)
	other.classes[place].Own = own
	return &reshaping{
		lineage: l,
		own:     own,
		named:   finder(own, itself),
		family:  l.under(place),
		ahead:   l.gatherer(),
		behind:  other.gatherer(),
	}
}

// mayOwn tells whether the class may have the names beside the fields of its superclass.
func (r *reshaping) mayOwn() api.Errno {
	inherited := finder(r.ahead(r.above[r.family[0]]), itself)
	for i, s := range r.own {
		switch {
		case !FieldName(s):
			return api.ErrName
		case r.named(s) < i:
			return api.ErrDouble
		case inherited(s) >= 0:
			return api.ErrInherited
		}
	}
	return api.OK
}

// mayInherit tells whether the class, and each descendant beside its own names,
// may have the fields. A name that a descendant has is told ahead of fields too
// many, wherever these are: so it alone ends the search.
func (r *reshaping) mayInherit() api.Errno {
	e := r.mayHold(r.family[0])
descendants:
	for _, place := range r.family[1:] {
		for _, s := range r.classes[place].Own {
			if r.named(s) >= 0 {
				e = api.ErrBelow
				break descendants
			}
		}
		if e == api.OK {
			e = r.mayHold(place)
		}
	}
	return e
}

// mayHold tells whether the class at a place may have as many fields as it would.
func (r *reshaping) mayHold(place int) api.Errno {
	if len(r.behind(place)) > api.MaxFields {
		return api.ErrFields
	}
	return api.OK
}

// mayCount tells whether all of the family may get greater layout numbers.
func (r *reshaping) mayCount() api.Errno {
	for _, place := range r.family {
		if r.classes[place].Layout >= api.MaxCount {
			return api.ErrCount
		}
	}
	return api.OK
}

// changes is what the reshape does to each of the family.
func (r *reshaping) changes() []api.Change {
	list := make([]api.Change, 0, len(r.family))
	for _, place := range r.family {
		old, fields := r.ahead(place), r.behind(place)
		list = append(list, api.Change{Class: place + 1, Old: old, New: fields, From: origins(old, fields)})
	}
	return list
}

// origins is of each field its place among the old ones, -1 if it is none of them.
func origins(old, fields []string) []int {
	find := finder(old, itself)
	list := make([]int, 0, len(fields))
	for _, s := range fields {
		list = append(list, find(s))
	}
	return list
}
