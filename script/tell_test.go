package script_test

import (
	"fmt"
	"math"
	"strings"
	"testing"

	"kiln/api"
)

// modelTell is what came of an act, line by line.
func modelTell(a api.Answer) string {
	out := fmt.Sprintln("answer", int(a.Code), a.Number, a.State, a.Used, a.At, modelByteWord(a.Class), modelByteWord(a.Selector))
	if a.Text == "" {
		return out
	}
	for _, l := range strings.Split(strings.TrimSuffix(a.Text, "\n"), "\n") {
		out += ". " + l + "\n"
	}
	return out
}

// P24.6: each field has its place, whatever stands in it.
func TestTellFields(t *testing.T) {
	a := api.Answer{Refusal: api.Refusal{Code: 1, Class: "C", Selector: "s:", At: 5}, Number: 2, State: 3, Used: 4, Text: "6"}
	tells(t, a, "answer 1 2 3 4 5 =C =s:\n. 6\n")
	tells(t, api.Answer{}, "answer 0 0 0 0 0 = =\n")
	tells(t, api.Answer{Refusal: api.Refusal{Code: -1, At: math.MinInt}, Number: math.MaxInt, State: -7, Used: math.MaxInt},
		"answer -1 9223372036854775807 -7 9223372036854775807 -9223372036854775808 = =\n")
	tells(t, api.Answer{Refusal: api.Refusal{Class: "a b\n", Selector: "=%\xff"}}, "answer 0 0 0 0 0 =a%20b%0a =%3d%25%ff\n")
	tells(t, api.Answer{Refusal: api.Refusal{Selector: "//"}}, "answer 0 0 0 0 0 = =%2f%2f\n")
}

// P24.6: a line for each line of the text, as it stands.
func TestTellText(t *testing.T) {
	for _, c := range []struct{ text, want string }{
		{"", ""}, {"\n", ". \n"}, {"\n\n", ". \n. \n"}, {"a", ". a\n"}, {"a\n", ". a\n"}, {"a\n\n", ". a\n. \n"}, {"\na", ". \n. a\n"}, {"a\nb", ". a\n. b\n"}, {"a\n\nb\n", ". a\n. \n. b\n"},
		{". x\n. y", ". . x\n. . y\n"}, {" ", ".  \n"}, {"a \r\n\tb", ". a \r\n. \tb\n"}, {"\x00\xff%=\u00e9", ". \x00\xff%=\u00e9\n"}, {"> save", ". > save\n"}, {"#", ". #\n"},
	} {
		tells(t, api.Answer{Text: c.text}, "answer 0 0 0 0 0 = =\n"+c.want)
	}
}

// P24.6: every byte in names and in the text.
func TestTellBytes(t *testing.T) {
	for b := range 256 {
		for _, s := range []string{string([]byte{byte(b)}), string([]byte{byte(b), byte(b)}), "x" + string([]byte{byte(b)}) + "y"} {
			a := api.Answer{Refusal: api.Refusal{Class: s, Selector: s + "z"}, Text: s + "1"}
			tells(t, a, modelTell(a))
		}
	}
}

// P24.6: no limit of a line holds here.
func TestTellGreat(t *testing.T) {
	long := strings.Repeat("x\xff", 1<<18)
	a := api.Answer{Refusal: api.Refusal{Code: 74, Class: long, Selector: long}, Text: long + "\n" + long}
	tells(t, a, modelTell(a))
	many := strings.Repeat("\n", 1<<22)
	tells(t, api.Answer{Text: many}, "answer 0 0 0 0 0 = =\n"+strings.Repeat(". \n", 1<<22))
}
