package kiln_test

import (
	"slices"
	"strconv"

	"kiln/api"
)

func wrapped(n int) int { return (n+1<<30)&(1<<31-1) - 1<<30 }

func integer(v val) int {
	n, ok := v.(int)
	failIf(!ok, api.ErrPrim)
	return n
}

func boolean(v val) bool {
	is, ok := v.(bool)
	failIf(!ok, api.ErrPrim)
	return is
}

// primitive is what a class of the kernel understands by itself.
func (m *machine) primitive(number int, selector string, r val, args []val) val {
	switch number {
	case nObject:
		return m.ofObject(selector, r, args)
	case nInteger:
		return m.ofInteger(selector, r.(int), args)
	case nTrue, nFalse:
		return ofBoolean(selector, r.(bool), args)
	case nClass:
		return m.ofClass(selector, r.(*mclass), args)
	case nArray:
		return ofArray(selector, r.(*marray), args)
	case nString:
		return m.ofString(selector, r.(*mtext), args)
	case nSymbol:
		return m.ofSymbol(selector, r.(sym), args)
	case nBlock:
		return r.(*mblock).node.Number
	}
	if selector == "selector" {
		return r.(*mmessage).selector
	}
	return r.(*mmessage).args
}

// index is a place from 0 on, of one from 1 on.
func index(v val, n int) int {
	i := integer(v)
	failIf(i < 1 || i > n, api.ErrIndex)
	return i - 1
}

func (m *machine) ofObject(selector string, r val, args []val) val {
	switch selector {
	case "==", "=":
		return r == args[0]
	case "~~":
		return r != args[0]
	case "class":
		return m.world.of(r)
	case "isNil":
		return r == nil
	case "notNil":
		return r != nil
	case "yourself":
		return r
	case "copy":
		return m.copied(r)
	case "isKindOf:":
		x, ok := args[0].(*mclass)
		failIf(!ok, api.ErrPrim)
		return m.world.of(r).under(x)
	}
	o, ok := r.(*mobject)
	if !ok {
		o = &mobject{class: m.world.classes[0]}
	}
	list := o.class.fields()
	switch selector {
	case "instVarSize":
		return len(list)
	case "instVarAt:":
		return o.fields[list[index(args[0], len(list))]]
	}
	o.fields[list[index(args[0], len(list))]] = args[1]
	return args[1]
}

func (m *machine) copied(r val) val {
	switch x := r.(type) {
	case *mobject:
		o := m.instance(x.class)
		for s, v := range x.fields {
			o.fields[s] = v
		}
		return o
	case *mtext:
		return m.newText(slices.Clone(x.bytes))
	case *marray:
		if len(x.items) > 0 {
			m.world.array(len(x.items))
			return &marray{slices.Clone(x.items)}
		}
	}
	return r
}

func (m *machine) instance(c *mclass) *mobject {
	m.world.alloc(2 + len(c.fields()))
	o := &mobject{c, map[string]val{}}
	for _, s := range c.fields() {
		o.fields[s] = nil
	}
	m.world.objects = append(m.world.objects, o)
	return o
}

func (m *machine) newText(bytes []byte) *mtext {
	m.world.text(len(bytes))
	return &mtext{bytes}
}

func (m *machine) ofInteger(selector string, r int, args []val) val {
	switch selector {
	case "=":
		return args[0] == r
	case "~=":
		return args[0] != r
	case "negated":
		return wrapped(-r)
	case "abs":
		return wrapped(max(r, -r))
	case "even":
		return r&1 == 0
	case "odd":
		return r&1 == 1
	case "printString":
		return m.newText([]byte(strconv.Itoa(r)))
	}
	return ofTwo(selector, r, integer(args[0]))
}

func ofTwo(selector string, r, x int) val {
	switch selector {
	case "+":
		return wrapped(r + x)
	case "-":
		return wrapped(r - x)
	case "*":
		return wrapped(r * x)
	case "<":
		return r < x
	case ">":
		return r > x
	case "<=":
		return r <= x
	case ">=":
		return r >= x
	case "min:":
		return min(r, x)
	case "max:":
		return max(r, x)
	case "bitAnd:":
		return r & x
	case "bitOr:":
		return r | x
	case "bitXor:":
		return r ^ x
	case "bitShift:":
		if x < 0 {
			return r >> min(-x, 40)
		}
		return wrapped(r << min(x, 31))
	}
	failIf(x == 0, api.ErrZero)
	q, rest := r/x, r%x
	if rest != 0 && (rest < 0) != (x < 0) {
		q, rest = q-1, rest+x
	}
	if selector == "//" {
		return wrapped(q)
	}
	return rest
}

func ofBoolean(selector string, r bool, args []val) val {
	if selector == "not" {
		return !r
	}
	x := boolean(args[0])
	if selector == "or:" {
		return r || x
	}
	return r && x
}

func (m *machine) ofClass(selector string, r *mclass, args []val) val {
	switch selector {
	case "new":
		failIf(r.number > nObject && r.number <= nMessage, api.ErrPrim)
		return m.instance(r)
	case "name":
		return sym(r.name)
	case "superclass":
		if r.super == nil {
			return nil
		}
		return r.super
	}
	failIf(r.number != nString && r.number != nArray, api.ErrPrim)
	n := integer(args[0])
	failIf(n < 0 || n > api.MaxSlots, api.ErrPrim)
	if r.number == nString {
		return m.newText(make([]byte, n))
	}
	if n == 0 {
		return m.world.void
	}
	m.world.array(n)
	return &marray{make([]val, n)}
}

func ofArray(selector string, r *marray, args []val) val {
	switch selector {
	case "size":
		return len(r.items)
	case "isEmpty":
		return len(r.items) == 0
	case "at:":
		return r.items[index(args[0], len(r.items))]
	}
	r.items[index(args[0], len(r.items))] = args[1]
	return args[1]
}

func (m *machine) ofString(selector string, r *mtext, args []val) val {
	switch selector {
	case "size":
		return len(r.bytes)
	case "isEmpty":
		return len(r.bytes) == 0
	case "at:":
		return int(r.bytes[index(args[0], len(r.bytes))])
	case "at:put:":
		integer(args[0])
		y := integer(args[1])
		failIf(y < 0 || y > 255, api.ErrPrim)
		r.bytes[index(args[0], len(r.bytes))] = byte(y)
		return y
	case "asSymbol":
		failIf(len(r.bytes) < 1 || len(r.bytes) > api.MaxSelector, api.ErrPrim)
		m.world.add(string(r.bytes))
		return sym(r.bytes)
	}
	x, ok := args[0].(*mtext)
	if selector == "=" {
		return ok && string(x.bytes) == string(r.bytes)
	}
	failIf(!ok, api.ErrPrim)
	if selector == "<" {
		return string(r.bytes) < string(x.bytes)
	}
	failIf(len(r.bytes)+len(x.bytes) > api.MaxSlots, api.ErrPrim)
	return m.newText(slices.Concat(r.bytes, x.bytes))
}

func (m *machine) ofSymbol(selector string, r sym, args []val) val {
	switch selector {
	case "size":
		return len(r)
	case "asString":
		return m.newText([]byte(r))
	}
	x, ok := args[0].(sym)
	failIf(!ok, api.ErrPrim)
	return r < x
}
