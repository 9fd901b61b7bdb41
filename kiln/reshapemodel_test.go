package kiln_test

import (
	"slices"

	"kiln/api"
	"kiln/parse"
)

// reshape gives a class another list of own names.
func (m *model) reshape(a api.Act) api.Answer {
	c := m.class(a.Name)
	failIf(c == nil, api.ErrClass)
	failIf(c.number <= nMessage, api.ErrKernel)
	namesMayBe(a.Names, c.super.fields())
	var family []*mclass
	for _, d := range m.classes {
		if d.under(c) {
			family = append(family, d)
		}
	}
	after := m.after(family, c, a.Names)
	if slices.Equal(c.own, a.Names) {
		return api.Answer{}
	}
	fresh := m.again(family, after)
	m.add(a.Names...)
	m.array(len(a.Names))
	m.layAgain(family, fresh)
	for _, d := range family {
		for range m.told(func() int { return m.instances(d.number) }) {
			m.alloc(2 + len(after[d]))
		}
	}
	c.own = slices.Clone(a.Names)
	m.migrate(family, after, fresh)
	return api.Answer{}
}

// after is the fields that the classes of a family get.
func (m *model) after(family []*mclass, c *mclass, own []string) map[*mclass][]string {
	after := map[*mclass][]string{}
	for _, d := range family[1:] {
		for _, s := range d.own {
			failIf(slices.Contains(own, s), api.ErrBelow)
		}
	}
	for _, d := range family {
		after[d] = slices.Concat(after[d.super], d.own)
		if d == c {
			after[d] = slices.Concat(c.super.fields(), own)
		}
		failIf(len(after[d]) > api.MaxFields, api.ErrFields)
	}
	return after
}

// again is a family's methods under the new fields, by class and selector.
func (m *model) again(family []*mclass, after map[*mclass][]string) map[*mclass]map[string]*mmethod {
	fresh := map[*mclass]map[string]*mmethod{}
	for _, d := range family {
		fresh[d] = map[string]*mmethod{}
		for _, selector := range d.sorted() {
			fresh[d][selector] = m.checked(d, selector, after[d])
		}
	}
	return fresh
}

// checked is a method under other fields; what refuses it is told with class and selector.
func (m *model) checked(d *mclass, selector string, fields []string) *mmethod {
	defer func() {
		if x, ok := recover().(failure); ok {
			x.Class, x.Selector = d.name, selector
			panic(x)
		}
	}()
	old := d.methods[selector]
	fresh := m.compiled(d, fields, old.source, parse.Method)
	fresh.layout, fresh.literals = d.layout+1, old.literals
	return fresh
}

// layAgain allocates what a family's methods are made of anew.
func (m *model) layAgain(family []*mclass, fresh map[*mclass]map[string]*mmethod) {
	for _, d := range family {
		for _, selector := range d.sorted() {
			m.array(len(fresh[d][selector].code.Words))
			m.alloc(2 + 9)
		}
		m.array(len(d.methods))
	}
}

// migrate is the commit: nothing is refused any more.
func (m *model) migrate(family []*mclass, after map[*mclass][]string, fresh map[*mclass]map[string]*mmethod) {
	for _, d := range family {
		d.methods = fresh[d]
		d.layout++
	}
	for _, o := range m.objects {
		list, there := after[o.class]
		if !there {
			continue
		}
		was := o.fields
		o.fields = map[string]val{}
		for _, s := range list {
			o.fields[s] = was[s]
		}
	}
}
