package plan_test

import (
	"slices"
	"strings"

	"kiln/api"
)

// The model tells the chapter over: each clause of P20.2 by itself, over the
// list as it stands, without regard to what that costs.

type model struct {
	classes []api.ClassInfo
	kernel  int
	name    string
	own     []string
}

// told is what Make is to answer.
func told(classes []api.ClassInfo, kernel int, name string, own []string) ([]api.Change, api.Errno) {
	m := model{classes, kernel, name, own}
	if !m.wellMade() || kernel < 0 || kernel > len(classes) {
		return nil, api.ErrArg
	}
	place := m.called(name)
	switch {
	case place < 0:
		return nil, api.ErrClass
	case place+1 <= kernel:
		return nil, api.ErrKernel
	}
	if e := m.ownNames(place); e != api.OK {
		return nil, e
	}
	changes := m.changes(place)
	for _, c := range changes[1:] {
		for _, s := range own {
			if slices.Contains(classes[c.Class-1].Own, s) {
				return nil, api.ErrBelow
			}
		}
	}
	if slices.ContainsFunc(changes, func(c api.Change) bool { return len(c.New) > 32 }) {
		return nil, api.ErrFields
	}
	if strings.Join(own, ",") == strings.Join(classes[place].Own, ",") && len(own) == len(classes[place].Own) {
		return nil, api.OK
	}
	if slices.ContainsFunc(changes, func(c api.Change) bool { return classes[c.Class-1].Layout > 1073741822 }) {
		return nil, api.ErrCount
	}
	return changes, api.OK
}

// called is the place of the first class of that name.
func (m model) called(name string) int {
	return slices.IndexFunc(m.classes, func(c api.ClassInfo) bool { return c.Name == name })
}

func (m model) wellMade() bool {
	for i, c := range m.classes {
		if c.Name == "" || m.called(c.Name) != i {
			return false
		}
		if up := m.called(c.Super); c.Super != "" && (up < 0 || up >= i) {
			return false
		}
		// What stands ahead of it is well made by now, so its fields can be told.
		fields := m.fields(i)
		slices.Sort(fields)
		if len(slices.Compact(fields)) != len(m.fields(i)) {
			return false
		}
	}
	return true
}

// line is a class, its superclass, that one's, and so on, by their places.
func (m model) line(place int) []int {
	list := []int{place}
	for m.classes[place].Super != "" {
		place = m.called(m.classes[place].Super)
		list = append(list, place)
	}
	return list
}

func (m model) fields(place int) []string {
	var list []string
	for _, up := range m.line(place) {
		list = append(slices.Clone(m.classes[up].Own), list...)
	}
	return list
}

func (m model) ownNames(place int) api.Errno {
	var inherited []string
	if line := m.line(place); len(line) > 1 {
		inherited = m.fields(line[1])
	}
	for i, s := range m.own {
		if !fieldLike(s) {
			return api.ErrName
		}
		if slices.Contains(m.own[:i], s) {
			return api.ErrDouble
		}
		if slices.Contains(inherited, s) {
			return api.ErrInherited
		}
	}
	return api.OK
}

func fieldLike(s string) bool {
	const small = "abcdefghijklmnopqrstuvwxyz"
	if len(s) < 1 || len(s) > 32 || slices.Contains([]string{"self", "super", "nil", "true", "false"}, s) {
		return false
	}
	return strings.Contains(small, s[:1]) && strings.Trim(s, small+strings.ToUpper(small)+"0123456789") == ""
}

// changes is the list of P20.3, whether it is refused or not.
func (m model) changes(place int) []api.Change {
	other := model{classes: slices.Clone(m.classes)}
	other.classes[place].Own = m.own
	var list []api.Change
	for i := range m.classes {
		if !slices.Contains(m.line(i), place) {
			continue
		}
		c := api.Change{Class: i + 1, Old: m.fields(i), New: other.fields(i)}
		for _, s := range c.New {
			c.From = append(c.From, slices.Index(c.Old, s))
		}
		list = append(list, c)
	}
	return list
}
