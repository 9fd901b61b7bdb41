package image_test

import (
	"fmt"
	"slices"
	"strconv"
	"strings"

	"kiln/api"
	"kiln/check"
	"kiln/gen"
	"kiln/listing"
	"kiln/parse"
	"kiln/scope"
	"kiln/symbol"
)

// judge tells a picture's soundness over, rule by rule, without a kernel.
type judge struct {
	*picture
	classes []int // by number, the first is 1
	chained map[int]int
	codes   map[int]*judged
}

// judged is a code that runs: where its instructions begin, and in which body each stands.
type judged struct {
	api.Code
	bodyOf map[int]int
	blocks map[int][4]int // by the body's beginning: the body around, parameters, slots, words
	depths []int
}

// verdict is the first rule that a picture breaks, by its number and some words; "": none.
func verdict(p *picture) (broken string) {
	defer func() {
		switch x := recover().(type) {
		case nil:
		case string:
			broken = x
		default:
			panic(x)
		}
	}()
	j := &judge{picture: p, chained: map[int]int{}, codes: map[int]*judged{}}
	for i, rule := range []func(){
		j.limits, j.words, j.kernel, j.allClasses, j.dictionaries, j.globals, j.processes, j.instances,
		j.methods, j.contexts, j.blocks, j.chains, j.owners, j.order,
	} {
		func() {
			defer func() {
				if x := recover(); x != nil {
					panic(fmt.Sprint(i, ": ", x))
				}
			}()
			rule()
		}()
	}
	return ""
}

func want(so bool, what string) {
	if !so {
		panic(what)
	}
}

func (j *judge) count() int { return len(j.objects) }

// at is the object of a number, which must be there.
func (j *judge) at(n int) thing {
	want(n >= 1 && n <= j.count(), "no object")
	return j.objects[n-1]
}

// number is that of the object that a word names; 0: it names none.
func number(w int) int {
	if w > 0 && w%4 == 0 {
		return w / 4
	}
	return 0
}

func isInt(w int) bool { return w%2 != 0 && w >= -1<<31+1 && w <= 1<<31-1 }

func value(w int) int { return (w - 1) / 2 }

// intIn is the number of an integer within bounds.
func (j *judge) intIn(w, least, most int, what string) int {
	want(isInt(w) && value(w) >= least && value(w) <= most, what)
	return value(w)
}

// symbolText is the text of a symbol's word; "": it is none.
func (j *judge) symbolText(w int) string {
	if w > 0 && w%4 == 2 && w/4 < len(j.symbols) {
		return j.symbols[w/4]
	}
	return ""
}

// classOf is the number of a word's class.
func (j *judge) classOf(w int) int {
	switch {
	case isInt(w):
		return api.Integer
	case j.symbolText(w) != "":
		return api.Symbol
	}
	return j.at(number(w)).class / 4
}

// is tells whether a number is that of an object of a class and a format.
func (j *judge) is(n, class int, format string) bool {
	return n >= 1 && n <= j.count() && j.at(n).class == 4*class && j.at(n).format == format
}

// slots is an object's slots, of which there must be so many.
func (j *judge) slots(n, class, count int) []int {
	want(j.is(n, class, "w") && len(j.at(n).slots) == count, "class, format or slots")
	return j.at(n).slots
}

// array is the slots of an Array.
func (j *judge) array(w int) []int {
	want(j.is(number(w), api.Array, "w"), "no Array")
	return j.at(number(w)).slots
}

func (j *judge) limits() {
	words := 0
	for _, x := range j.objects {
		want(len(x.slots) <= api.MaxSlots && len(x.bytes) <= api.MaxSlots, "slots")
		words += 2 + len(x.slots) + (len(x.bytes)+3)/4
	}
	want(words <= j.room[0] && j.count() <= j.room[1], "room")
}

func (j *judge) words() {
	want(j.count() >= api.Root && len(j.at(api.Root).slots) > 0, "root")
	all := j.array(j.at(api.Root).slots[0])
	for _, x := range j.objects {
		want(number(x.class) > 0 && slices.Contains(all, x.class), "class")
		for _, w := range x.slots {
			n := number(w)
			want(isInt(w) || j.symbolText(w) != "" || n > 0 && n <= j.count(), "slot")
		}
	}
}

func kernelClasses() []string {
	return strings.Fields("Object UndefinedObject False True Integer Symbol String Array Class Method Block Context Process Message")
}

func (j *judge) kernel() {
	for i, class := range []int{5, 6, 7} {
		j.slots(i+1, class, 0)
	}
	j.slots(api.Empty, api.Array, 0)
	root := j.slots(api.Root, api.Array, 8)
	want(slices.Equal(root[3:], []int{72, 4, 8, 12, 4}), "root")
	want(len(j.symbols) >= 14 && slices.Equal(j.symbols[:14], kernelClasses()), "symbols")
	for i := range 14 {
		c := j.slots(4+i, api.Class, 7)
		above := 16
		if i == 0 {
			above = 4
		}
		want(c[0] == 4*i+2 && c[1] == above && c[2] == 72 && c[5] == 1 && c[6] == 2*(i+1)+1, "kernel class")
		if slices.Contains([]int{12, 13, 15, 16, 17}, 4+i) {
			want(c[3] == 72 && c[4] == 72, "methods of a kernel class")
		}
	}
}

func letters(s string, first byte) bool {
	if s == "" || len(s) > 32 || s[0] < first || s[0] > first+25 {
		return false
	}
	return strings.Trim(s, "abcdefghijklmnopqrstuvwxyzABCDEFGHIJKLMNOPQRSTUVWXYZ0123456789") == ""
}

// own is a class's own fields, fieldsOf all of them.
func (j *judge) own(class int) []string {
	var list []string
	for _, w := range j.array(j.at(class).slots[2]) {
		list = append(list, j.symbolText(w))
	}
	return list
}

func (j *judge) fieldsOf(class int) []string {
	if class <= api.Message {
		return nil
	}
	return append(j.fieldsOf(number(j.at(class).slots[1])), j.own(class)...)
}

func (j *judge) allClasses() {
	all := j.array(j.at(api.Root).slots[0])
	want(len(all) >= 14 && len(all) <= 256, "how many")
	names := map[string]bool{}
	for i, w := range all {
		n := number(w)
		want(!slices.Contains(all[:i], w), "twice")
		c := j.slots(n, api.Class, 7)
		name := j.symbolText(c[0])
		want(letters(name, 'A') && !names[name], "name")
		names[name] = true
		j.classes = append(j.classes, n)
		if i < 14 {
			want(n == 4+i, "kernel class")
			continue
		}
		want(slices.Contains(all[:i], c[1]) && (c[1] == 16 || number(c[1]) > 17), "superclass")
		j.intIn(c[5], 0, 1<<30-1, "layout")
		want(c[6] == 2*(i+1)+1, "number")
		for _, f := range j.own(n) {
			want(letters(f, 'a') && !slices.Contains([]string{"self", "super", "nil", "true", "false"}, f), "field name")
		}
		fields := j.fieldsOf(n)
		want(len(fields) <= 32, "fields")
		slices.Sort(fields)
		want(len(slices.Compact(fields)) == len(j.fieldsOf(n)), "field twice")
	}
}

func (j *judge) dictionaries() {
	for _, n := range j.classes {
		c := j.at(n).slots
		selectors, methods := j.array(c[3]), j.array(c[4])
		want(len(selectors) <= 128 && len(methods) == len(selectors), "how many")
		for i, w := range selectors {
			want(j.symbolText(w) != "" && (i == 0 || j.symbolText(selectors[i-1]) < j.symbolText(w)), "selectors")
			m := j.slots(number(methods[i]), api.Method, 9)
			want(m[0] == w && m[1] == 4*n && m[2] == c[5], "method")
		}
	}
}

func (j *judge) globals() {
	all := j.array(j.at(api.Root).slots[1])
	want(len(all) <= 512 && len(all)%2 == 0, "how many")
	var names []string
	for _, n := range j.classes {
		names = append(names, j.symbolText(j.at(n).slots[0]))
	}
	for i := 0; i < len(all); i += 2 {
		name := j.symbolText(all[i])
		want(letters(name, 'A') && !slices.Contains(names, name), "name")
		names = append(names, name)
	}
}

// context is the slots of a context.
func (j *judge) context(w int) []int {
	n := number(w)
	want(j.is(n, api.Context, "w") && len(j.at(n).slots) >= 9, "no context")
	s := j.at(n).slots
	for _, i := range []int{2, 5, 6, 7, 8} {
		j.intIn(s[i], 0, 1<<30-1, "no context's number")
	}
	want(9+value(s[6])+value(s[7]) <= len(s), "no context's slots")
	return s
}

func (j *judge) processes() {
	all := j.array(j.at(api.Root).slots[2])
	want(len(all) <= 1024, "how many")
	for i, w := range all {
		if isInt(w) {
			j.intIn(w, 0, 999, "integer")
			continue
		}
		p := j.slots(number(w), api.Process, 1)
		want(!slices.Contains(all[:i], w), "twice")
		length := 0
		for c := p[0]; c != 4; c = j.context(c)[0] {
			j.context(c)
			length++
			want(length <= 256 && j.chained[number(c)] == 0, "chain")
			j.chained[number(c)] = 1
		}
		want(length > 0, "no chain")
	}
	for i, x := range j.objects {
		if x.class == 4*api.Process {
			want(slices.Contains(all, 4*(i+1)), "a Process that stands nowhere")
		}
	}
}

func (j *judge) instances() {
	for i, x := range j.objects {
		n, class := i+1, x.class/4
		switch class {
		case 5, 6, 7, 8, 9:
			want(n <= 3, "nil, false, true")
		case api.Class:
			want(slices.Contains(j.classes, n), "class")
		case api.String:
			want(x.format == "b", "string")
		case api.Array:
			want(x.format == "w" && (len(x.slots) > 0 || n == 18), "array")
		case api.Message:
			want(x.format == "w" && len(x.slots) == 2 && j.symbolText(x.slots[0]) != "", "message")
			j.array(x.slots[1])
		case api.Method, api.Block, api.Context, api.Process:
		default:
			want(x.format == "w" && len(x.slots) == len(j.fieldsOf(class)), "instance")
		}
	}
}

func (j *judge) methods() {
	for i, x := range j.objects {
		if x.class != 4*api.Method {
			continue
		}
		m := j.slots(i+1, api.Method, 9)
		selector, class := j.symbolText(m[0]), number(m[1])
		want(m[0] == 4 || selector != "", "selector")
		want(slices.Contains(j.classes, class), "class")
		now := value(j.at(class).slots[5])
		layout := j.intIn(m[2], 0, now, "layout")
		args := j.intIn(m[3], 0, 8, "arguments")
		temps := j.intIn(m[4], args, 32, "temporaries")
		stack := j.intIn(m[5], 0, 256, "stack")
		literals, code := j.array(m[6]), j.array(m[7])
		want(len(code) <= 4096, "code")
		words := []int{}
		for _, w := range code {
			words = append(words, j.intIn(w, -1<<30, 1<<30-1, "code's word"))
		}
		want(j.is(number(m[8]), api.String, "b"), "source")
		want(m[0] != 4 || class == api.UndefinedObject, "doit")
		if layout == now {
			c := j.compiled(class, selector, j.at(number(m[8])).bytes)
			want(c.Args == args && c.Temps == temps && c.Stack == stack && slices.Equal(c.Words, words), "what is made")
			want(len(c.Literals) == len(literals), "literals")
			for k, l := range c.Literals {
				if l.Kind == api.LitText {
					want(j.is(number(literals[k]), api.String, "b"), "text")
				} else {
					want(len(j.array(literals[k])) == len(l.Items), "array")
				}
			}
			j.codes[i+1] = c
		}
	}
}

func (j *judge) compiled(class int, selector, source string) *judged {
	n := api.Names{Fields: j.fieldsOf(class)}
	for _, c := range j.classes {
		n.Classes = append(n.Classes, j.symbolText(j.at(c).slots[0]))
	}
	globals := j.array(j.at(api.Root).slots[1])
	for i := 0; i < len(globals); i += 2 {
		n.Globals = append(n.Globals, j.symbolText(globals[i]))
	}
	t, _ := symbol.Load(j.symbols, api.MaxSymbols)
	tree, fault := parse.Doit(source)
	if selector != "" {
		tree, fault = parse.Method(source)
	}
	want(fault.Code == api.OK && tree.Selector == selector, "source")
	scoped, fault := scope.Resolve(tree, n)
	want(fault.Code == api.OK, "names")
	code, fault := gen.Make(scoped, t)
	want(fault.Code == api.OK && t.Count() == len(j.symbols), "code, or its symbols")
	return &judged{Code: code}
}

// running is the code of a method that may run, laid out; nil: it is stale.
func (j *judge) running(method int) *judged {
	c := j.codes[method]
	if c != nil && c.blocks == nil {
		*c = *laidOut(c.Code)
	}
	return c
}

// laidOut finds a code's instructions by its listing, and the bodies by the
// words that its blocks have.
func laidOut(code api.Code) *judged {
	c := &judged{Code: code, bodyOf: map[int]int{}, blocks: map[int][4]int{0: {-1, code.Args, code.Temps, len(code.Words)}}}
	text, _ := listing.Print(api.Code{Words: code.Words})
	var starts []int
	for _, line := range strings.Split(text, "\n")[1:] {
		at, e := strconv.Atoi(strings.Split(line, " ")[0])
		if e == nil {
			starts = append(starts, at)
		}
	}
	for _, at := range starts {
		// The body around is the shortest that has the place.
		body := 0
		for b, x := range c.blocks {
			if b <= at && at < b+x[3] && x[3] <= c.blocks[body][3] {
				body = b
			}
		}
		c.bodyOf[at] = body
		if w := code.Words[at:]; w[0] == api.OpBlock {
			c.blocks[at+4] = [4]int{body, w[1], w[2], w[3]}
		}
	}
	c.depths, _ = check.Depths(code, api.Bounds{Fields: 32, Classes: 256, Globals: 256, Symbols: 4096})
	return c
}

func (j *judge) contexts() {
	for i, x := range j.objects {
		if x.class != 4*api.Context {
			continue
		}
		c := j.context(4 * (i + 1))
		j.intIn(c[5], 1, 256, "depth")
		m := number(c[1])
		want(j.is(m, api.Method, "w"), "method")
		temps, cells := value(c[7]), c[9+value(c[7]):]
		for _, w := range cells[value(c[6]):] {
			want(w == 4, "a cell that holds nothing")
		}
		want(c[0] == 4 || j.chained[i+1] == 1, "sender")
		around := -1
		if c[4] == 4 {
			want(c[8] == 1, "start")
		} else {
			outer := j.context(c[4])
			want(outer[1] == c[1] && outer[3] == c[3], "outer")
			around = value(outer[8])
		}
		home := 0
		for o := c; o[4] != 4; o = j.context(o[4]) {
			home++
			want(home < 256, "home")
		}
		code := j.running(m)
		if code == nil {
			continue
		}
		body, there := code.blocks[value(c[8])]
		want(there && body[0] == around, "body")
		want(len(cells) == code.Stack && temps == body[2], "cells, temporaries")
		class := j.classOf(c[3])
		for class != number(j.at(m).slots[1]) {
			class = number(j.at(class).slots[1])
			want(class != api.Nil, "receiver")
		}
	}
}

func (j *judge) blocks() {
	for i, x := range j.objects {
		if x.class != 4*api.Block {
			continue
		}
		b := j.slots(i+1, api.Block, 6)
		outer := j.context(b[0])
		for _, w := range b[3:] {
			j.intIn(w, 0, 1<<30-1, "number")
		}
		want(b[1] == outer[1] && b[2] == outer[3], "method, receiver")
		if code := j.running(number(b[1])); code != nil {
			body, there := code.blocks[value(b[3])]
			want(there && body[0] == value(outer[8]) && body[1] == value(b[4]) && body[2] == value(b[5]), "instruction")
		}
	}
}

func (j *judge) chains() {
	for _, w := range j.array(j.at(api.Root).slots[2]) {
		if isInt(w) {
			continue
		}
		top := true
		for c := j.at(number(w)).slots[0]; c != 4; top = false {
			x := j.context(c)
			if x[0] == 4 {
				want(x[5] == 3, "the last one's depth")
			} else {
				want(x[5] == j.context(x[0])[5]+2, "depth")
			}
			if code := j.running(number(x[1])); code != nil {
				pc, deep := value(x[2]), value(x[6])
				if !top {
					deep++
				}
				body, there := code.bodyOf[pc]
				want(there && body == value(x[8]) && code.depths[pc] == deep, "pc, top")
			}
			c = x[0]
		}
	}
}

// inner is by the object's number what it is that slots of which kind name.
func (j *judge) inner() map[int]string {
	parts := map[int]string{}
	say := func(w int, part string, shared bool) {
		n := number(w)
		if n == api.Empty {
			return
		}
		was, there := parts[n]
		want(!there || shared && was == part, "an inner object twice")
		parts[n] = part
	}
	for i, part := range []string{"classes", "globals", "processes"} {
		say(j.at(api.Root).slots[i], part, false)
	}
	for _, n := range j.classes {
		for i := 2; i < 5; i++ {
			say(j.at(n).slots[i], fmt.Sprint("list", i), false)
		}
	}
	for _, x := range j.objects {
		if x.class == 4*api.Method {
			say(x.slots[6], "literals", true)
			say(x.slots[7], "code", false)
			say(x.slots[8], "source", true)
		}
	}
	return parts
}

func (j *judge) owners() {
	parts := j.inner()
	for i, x := range j.objects {
		n := i + 1
		for k, w := range x.slots {
			want(w != 4*api.Root, "the root is named")
			var plain bool
			switch x.class / 4 {
			case api.Class, api.Method, api.Process:
			case api.Context:
				plain = k == 3 || k >= 9
			case api.Block:
				plain = k == 2
			case api.Array:
				plain = n != api.Root && (parts[n] == "" || parts[n] == "literals" || parts[n] == "globals" && k%2 == 1)
			default:
				plain = true
			}
			if o := number(w); plain && o > 0 {
				want(parts[o] == "", "an inner object is named")
				class := j.at(o).class / 4
				want(class != api.Method && class != api.Context && class != api.Process, "a method, context or process is named")
			}
		}
	}
}

// order: the numbers are those of the walk.
func (j *judge) order() {
	next := api.Root + 1
	meet := func(w int) {
		if n := number(w); n >= next {
			want(n == next, "another number")
			next++
		}
	}
	for n := 1; n < next; n++ {
		meet(j.at(n).class)
		for _, w := range j.at(n).slots {
			meet(w)
		}
	}
	want(next == j.count()+1, "not reached")
}
