package inspect

import "strings"

const hexDigits = "0123456789abcdef"

// written is a text's bytes as such that can be seen, between two quotes.
func written(text string) string {
	var b strings.Builder
	b.WriteByte('\'')
	for i := range len(text) {
		writeByte(&b, text[i])
	}
	b.WriteByte('\'')
	return b.String()
}

func writeByte(b *strings.Builder, c byte) {
	switch {
	case c < ' ' || c > '~':
		b.WriteString(`\x`)
		b.WriteByte(hexDigits[c>>4])
		c = hexDigits[c&15]
	case c == '\'' || c == '\\':
		b.WriteByte('\\')
	}
	b.WriteByte(c)
}
