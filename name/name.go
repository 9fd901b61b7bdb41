// Package name: which texts may name a class, a global or a field: see DOC.md, 'Names'.
package name

import "kiln/api"

// Class tells whether a text may be a class's or a global's name.
func Class(s string) bool { return shaped(s, 'A', 'Z') }

// Field tells whether a text may be a field's name.
func Field(s string) bool {
	switch s {
	case "self", "super", "nil", "true", "false":
		return false
	}
	return shaped(s, 'a', 'z')
}

// shaped tells whether a text is letters and digits, not too many, the first
// of them between least and most.
func shaped(s string, least, most byte) bool {
	if s == "" || len(s) > api.MaxName {
		return false
	}
	if s[0] < least || s[0] > most {
		return false
	}
	for i := range len(s) {
		if !plain(s[i]) {
			return false
		}
	}
	return true
}

func plain(b byte) bool {
	return b >= 'a' && b <= 'z' || b >= 'A' && b <= 'Z' || b >= '0' && b <= '9'
}
