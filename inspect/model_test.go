package inspect_test

import (
	"math/rand"
	"slices"
	"strconv"
	"strings"

	"kiln/api"
)

// node is an object as data: no oop, no heap.
type node struct {
	class string
	bytes string // of a String, which has no slots
	slots []value
}

// value is what a slot holds: a node, or what needs no label.
type value struct {
	to     *node
	kind   int
	number int
	text   string
}

// The kinds of values that are no nodes.
const (
	integer = iota + 1
	symbol
	constant // nil, true, false, a class
)

// held is a global and its value.
type held struct {
	name string
	value
}

// graph is globals, and nodes, also such as no global leads to.
type graph struct {
	globals []held
	nodes   []*node
}

// fieldsOf is the fields of the classes whose objects are told by them.
func fieldsOf(class string) ([]string, bool) {
	switch class {
	case "Object":
		return nil, true
	case "P":
		return []string{"x", "y"}, true
	case "Q":
		return []string{"x", "y", "z"}, true
	}
	return nil, false
}

// isGoneThrough tells whether the walk goes through an object's slots.
func (n *node) isGoneThrough() bool {
	return !slices.Contains([]string{"String", "Block", "Method", "Context", "Process"}, n.class)
}

// labels is who gets which label: it is found out ahead of all telling.
func (g *graph) labels() ([]*node, map[*node]int) {
	var order []*node
	label := map[*node]int{}
	meet := func(v value) {
		if v.to != nil && label[v.to] == 0 && len(order) < 2000 {
			order = append(order, v.to)
			label[v.to] = len(order)
		}
	}
	for _, h := range g.globals {
		meet(h.value)
	}
	for i := 0; i < len(order); i++ {
		for _, v := range order[i].slots {
			if order[i].isGoneThrough() {
				meet(v)
			}
		}
	}
	return order, label
}

// text is the text that the chapter asks for.
func (g *graph) text() string {
	order, label := g.labels()
	more := false
	form := func(v value) string {
		if v.to == nil {
			return v.form()
		}
		if label[v.to] == 0 {
			more = true
			return "@"
		}
		return "@" + strconv.Itoa(label[v.to])
	}
	var lines []string
	for _, h := range g.globals {
		lines = append(lines, h.name+" = "+form(h.value))
	}
	for _, n := range order {
		lines = append(lines, "@"+strconv.Itoa(label[n])+" "+n.class+n.rest(form))
	}
	if more {
		lines = append(lines, "more")
	}
	return strings.Join(append(lines, ""), "\n")
}

// rest is what stands behind the class's name.
func (n *node) rest(form func(v value) string) string {
	fields, told := fieldsOf(n.class)
	var forms []string
	for i, v := range n.slots {
		switch {
		case !n.isGoneThrough():
		case told && i < len(fields):
			forms = append(forms, fields[i]+"="+form(v))
		case told:
			forms = append(forms, strconv.Itoa(i+1)+"="+form(v))
		default:
			forms = append(forms, form(v))
		}
	}
	all := strings.Join(forms, " ")
	switch {
	case n.class == "String":
		return " " + written(n.bytes)
	case n.class == "Array":
		return " (" + all + ")"
	case n.class == "Block":
		return " " + n.slots[4].form()
	case all == "":
		return ""
	}
	return " " + all
}

func (v value) form() string {
	switch v.kind {
	case integer:
		return strconv.Itoa(v.number)
	case symbol:
		return "#" + written(v.text)
	}
	return v.text
}

// alone is what Value tells of a node.
func (n *node) alone() string {
	switch {
	case n.class == "String":
		return written(n.bytes)
	case strings.ContainsAny(n.class[:1], "AEIOU"):
		return "an " + n.class
	}
	return "a " + n.class
}

// plainValue is a value at random that needs no label.
func plainValue(r *rand.Rand) value {
	switch r.Intn(3) {
	case 0:
		n := []int{r.Intn(10), r.Intn(1<<30) - 1<<29, most, least}[r.Intn(4)]
		return value{kind: integer, number: n}
	case 1:
		return value{kind: symbol, text: []string{"foo", "at:put:", "+", "it's", "\x00\xff", "nil", "7"}[r.Intn(7)]}
	}
	return value{kind: constant, text: []string{"nil", "true", "false", "Object", "P", "Q", "Class"}[r.Intn(7)]}
}

// value is one at random, of which some name nodes.
func (g *graph) value(r *rand.Rand) value {
	if len(g.nodes) == 0 || r.Intn(4) == 0 {
		return plainValue(r)
	}
	return value{to: g.nodes[r.Intn(len(g.nodes))]}
}

// slotsOf is how many slots a new object of a class gets.
func slotsOf(r *rand.Rand, class string) int {
	fields, told := fieldsOf(class)
	switch {
	case told && r.Intn(8) == 0:
		return len(fields) + r.Intn(3)
	case told:
		return len(fields)
	case class == "Array":
		return 1 + r.Intn(5)
	case class == "Block":
		return api.BlockSlots
	case class == "Message":
		return 2
	}
	return r.Intn(12)
}

// random is a graph of so many nodes, most of them of classes that are gone through.
func random(r *rand.Rand, nodes int) *graph {
	classes := strings.Fields("Array Array Array P P Q Q Object Message String String Block Method Context Process")
	g := &graph{}
	for range nodes {
		g.nodes = append(g.nodes, &node{class: classes[r.Intn(len(classes))]})
	}
	for _, n := range g.nodes {
		if n.class == "String" {
			list := make([]byte, r.Intn(7))
			r.Read(list)
			n.bytes = string(list)
			continue
		}
		for range slotsOf(r, n.class) {
			n.slots = append(n.slots, g.value(r))
		}
		if n.class == "Block" {
			n.slots[4] = value{kind: integer, number: r.Intn(9)}
		}
	}
	for i := range r.Intn(5) {
		g.globals = append(g.globals, held{"G" + strconv.Itoa(i), g.value(r)})
	}
	return g
}
