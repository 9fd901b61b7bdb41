package kiln_test

import (
	"fmt"
	"strconv"
	"strings"
)

// quoted is bytes as inspect tells them.
func quoted(bytes string) string {
	var b strings.Builder
	for i := range len(bytes) {
		switch c := bytes[i]; {
		case c == '\'' || c == '\\':
			b.WriteString("\\" + string(c))
		case c < ' ' || c > '~':
			fmt.Fprintf(&b, "\\x%02x", c)
		default:
			b.WriteByte(c)
		}
	}
	return "'" + b.String() + "'"
}

// plain is a value that is told by itself.
func plain(v val) (string, bool) {
	switch x := v.(type) {
	case nil:
		return "nil", true
	case bool:
		return strconv.FormatBool(x), true
	case int:
		return strconv.Itoa(x), true
	case sym:
		return "#" + quoted(string(x)), true
	case *mclass:
		return x.name, true
	}
	return "", false
}

// brief is one value, as the answer of a process tells it.
func (m *model) brief(v val) string {
	if s, ok := plain(v); ok {
		return s
	}
	if x, ok := v.(*mtext); ok {
		return quoted(string(x.bytes))
	}
	name := m.of(v).name
	if strings.ContainsAny(name[:1], "AEIOU") {
		return "an " + name
	}
	return "a " + name
}

// sight is what was met on the walk.
type sight struct {
	labels map[any]int
	list   []any
	more   bool
}

func (s *sight) form(v val) string {
	if text, ok := plain(v); ok {
		return text
	}
	n, there := s.labels[v]
	switch {
	case !there && len(s.list) == 2000:
		s.more = true
		return "@"
	case !there:
		s.list = append(s.list, v)
		n = len(s.list)
		s.labels[v] = n
	}
	return "@" + strconv.Itoa(n)
}

func (s *sight) forms(list []val) string {
	var all []string
	for _, v := range list {
		all = append(all, s.form(v))
	}
	return strings.Join(all, " ")
}

// inspect is the text of the globals and what they lead to.
func (m *model) inspect() string {
	s := &sight{labels: map[any]int{}}
	var b strings.Builder
	for _, g := range m.globals {
		b.WriteString(g + " = " + s.form(*m.values[g]) + "\n")
	}
	for i := 0; i < len(s.list); i++ {
		fmt.Fprintf(&b, "@%d %s", i+1, m.of(s.list[i]).name)
		switch x := s.list[i].(type) {
		case *mtext:
			b.WriteString(" " + quoted(string(x.bytes)))
		case *marray:
			b.WriteString(" (" + s.forms(x.items) + ")")
		case *mblock:
			b.WriteString(" " + strconv.Itoa(x.node.Number))
		case *mmessage:
			b.WriteString(" " + s.forms([]val{x.selector, x.args}))
		case *mobject:
			for _, name := range x.class.fields() {
				b.WriteString(" " + name + "=" + s.form(x.fields[name]))
			}
		}
		b.WriteString("\n")
	}
	if s.more {
		b.WriteString("more\n")
	}
	return b.String()
}
