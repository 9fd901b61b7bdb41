package listing

import "kiln/api"

// gatherer makes elements of a code's literals, if they may be.
type gatherer struct {
	elements int // how many were met in arrays
}

// all are the elements of literals, as far as look lets each of them be.
func (g *gatherer) all(literals []api.Lit, look func(*api.Lit) api.Errno) ([]element, api.Errno) {
	var out []element
	for i := range literals {
		l := &literals[i]
		if e := look(l); e != api.OK {
			return nil, e
		}
		x, e := g.element(l)
		if e != api.OK {
			return nil, e
		}
		out = append(out, x)
	}
	return out, api.OK
}

// byItself looks at a literal that is no element.
func (g *gatherer) byItself(l *api.Lit) api.Errno {
	if l.Kind != api.LitText && l.Kind != api.LitArray || !mayBe(l) {
		return api.ErrListing
	}
	return api.OK
}

// inArray looks at an element. It counts it ahead of anyone's going into it: so
// there is an end even where a list of elements holds itself.
func (g *gatherer) inArray(l *api.Lit) api.Errno {
	if !mayBe(l) {
		return api.ErrListing
	}
	g.elements++
	if g.elements > api.MaxCode {
		return api.ErrLong
	}
	return api.OK
}

// element is that of a literal which may be; if it is an array, its elements are
// looked at here.
func (g *gatherer) element(l *api.Lit) (element, api.Errno) {
	switch l.Kind {
	case api.LitInt:
		return number(l.Number), api.OK
	case api.LitText:
		return text(l.Text), api.OK
	case api.LitSymbol:
		return symbol(l.Number), api.OK
	case api.LitNil:
		return nothing{}, api.OK
	case api.LitTrue:
		return yes{}, api.OK
	case api.LitFalse:
		return no{}, api.OK
	}
	items, e := g.all(l.Items, g.inArray)
	return array(items), e
}

// mayBe tells of a literal, its elements left aside, whether it may be one: what
// its kind does not name would be lost in the listing.
func mayBe(l *api.Lit) bool {
	switch l.Kind {
	case api.LitInt, api.LitSymbol:
		return l.Text == "" && len(l.Items) == 0
	case api.LitText:
		return len(l.Text) <= api.MaxText && l.Number == 0 && len(l.Items) == 0
	case api.LitArray:
		return len(l.Items) <= api.MaxArray && l.Number == 0 && l.Text == ""
	case api.LitNil, api.LitTrue, api.LitFalse:
		return l.Number == 0 && l.Text == "" && len(l.Items) == 0
	}
	return false
}
