package step_test

import "kiln/api"

func wrap(n int) int { return (n+1<<30)&(1<<31-1) - 1<<30 }

// integers is two numbers, if both are.
func integers(a, b val) (int, int) {
	x, ok := a.(int)
	y, also := b.(int)
	if !ok || !also {
		fail(api.ErrPrim)
	}
	return x, y
}

// primitive is what the random programs ask for.
func (m *model) primitive(class int, selector string, r val, args []val) val {
	switch class {
	case api.Object:
		return m.ofObject(selector, r, args)
	case api.Integer:
		return ofInteger(selector, r.(int), args)
	case api.TrueClass, api.FalseClass:
		return ofBoolean(selector, r.(bool), args)
	case api.Class:
		return m.ofClass(selector, r.(*mclass), args)
	case api.Array:
		return ofArray(selector, r.(*marray), args)
	case api.String:
		return ofString(selector, r.(*mtext), args)
	case api.Symbol:
		return ofSymbol(selector, r.(sym), args)
	case api.Block:
		if selector == "numArgs" {
			return r.(*mblock).node.Params
		}
	case api.Message:
		if selector == "selector" {
			return r.(*mmessage).selector
		}
		return val(r.(*mmessage).args)
	}
	panic("the model has no " + selector)
}

// index is a place from 0 on, of one from 1 on.
func index(v val, n int) int {
	i, ok := v.(int)
	if !ok {
		fail(api.ErrPrim)
	}
	if i < 1 || i > n {
		fail(api.ErrIndex)
	}
	return i - 1
}

func (m *model) ofObject(selector string, r val, args []val) val {
	var slots []val
	if o, ok := r.(*mobject); ok {
		slots = o.slots
	}
	switch selector {
	case "==", "=":
		return r == args[0]
	case "~~":
		return r != args[0]
	case "class":
		return m.of(r)
	case "isNil":
		return r == nil
	case "notNil":
		return r != nil
	case "yourself":
		return r
	case "instVarSize":
		return len(slots)
	case "instVarAt:":
		return slots[index(args[0], len(slots))]
	case "instVarAt:put:":
		slots[index(args[0], len(slots))] = args[1]
		return args[1]
	case "isKindOf:":
		x, ok := args[0].(*mclass)
		if !ok {
			fail(api.ErrPrim)
		}
		for c := m.of(r); c != nil; c = c.super {
			if c == x {
				return true
			}
		}
		return false
	}
	panic("the model has no " + selector)
}

func ofInteger(selector string, r int, args []val) val {
	switch selector {
	case "=":
		return args[0] == r
	case "negated":
		return wrap(-r)
	case "odd":
		return r&1 == 1
	}
	r, x := integers(r, args[0])
	switch selector {
	case "+":
		return wrap(r + x)
	case "-":
		return wrap(r - x)
	case "*":
		return wrap(r * x)
	case "<":
		return r < x
	case ">":
		return r > x
	case "//":
		if x == 0 {
			fail(api.ErrZero)
		}
		q := r / x
		if r%x != 0 && (r < 0) != (x < 0) {
			q--
		}
		return wrap(q)
	}
	panic("the model has no " + selector)
}

func ofBoolean(selector string, r bool, args []val) val {
	if selector == "not" {
		return !r
	}
	x, ok := args[0].(bool)
	if !ok {
		fail(api.ErrPrim)
	}
	if selector == "or:" {
		return r || x
	}
	return r && x
}

func (m *model) ofClass(selector string, r *mclass, args []val) val {
	switch selector {
	case "new":
		if r.oop != api.Object && r.oop <= api.Message {
			fail(api.ErrPrim)
		}
		return &mobject{r, make([]val, len(r.fields()))}
	case "name":
		return sym(r.name)
	case "superclass":
		if r.super == nil {
			return nil
		}
		return r.super
	case "new:":
		n, ok := args[0].(int)
		if !ok || n < 0 || n > api.MaxSlots || r.oop != api.String && r.oop != api.Array {
			fail(api.ErrPrim)
		}
		if r.oop == api.String {
			return &mtext{make([]byte, n)}
		}
		if n == 0 {
			return m.void
		}
		return &marray{make([]val, n)}
	}
	panic("the model has no " + selector)
}

func ofArray(selector string, r *marray, args []val) val {
	switch selector {
	case "size":
		return len(r.items)
	case "at:":
		return r.items[index(args[0], len(r.items))]
	case "at:put:":
		r.items[index(args[0], len(r.items))] = args[1]
		return args[1]
	}
	panic("the model has no " + selector)
}

func ofString(selector string, r *mtext, args []val) val {
	switch selector {
	case "size":
		return len(r.bytes)
	case "at:":
		return int(r.bytes[index(args[0], len(r.bytes))])
	case "at:put:":
		if _, y := integers(args[0], args[1]); y < 0 || y > 255 {
			fail(api.ErrPrim)
		}
		r.bytes[index(args[0], len(r.bytes))] = byte(args[1].(int))
		return args[1]
	}
	x, ok := args[0].(*mtext)
	if selector == "=" {
		return ok && string(x.bytes) == string(r.bytes)
	}
	if !ok {
		fail(api.ErrPrim)
	}
	return string(r.bytes) < string(x.bytes)
}

func ofSymbol(selector string, r sym, args []val) val {
	if selector == "size" {
		return len(r)
	}
	x, ok := args[0].(sym)
	if !ok {
		fail(api.ErrPrim)
	}
	return r < x
}
