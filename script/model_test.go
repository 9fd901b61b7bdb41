package script_test

import (
	"errors"
	"fmt"
	"math/big"
	"reflect"
	"regexp"
	"strconv"
	"strings"
	"testing"

	"kiln/api"
	"kiln/script"
)

// The model: what a line is made of stands as a text, and words are told by what
// they look like, and then by what they say.

var modelLines = map[int]string{
	1: "class name other names", 2: "method name text", 3: "remove name other", 4: "global name", 5: "spawn text", 6: "run number fuel",
	7: "reshape name names", 8: "collect", 9: "inspect", 10: "mark number", 11: "save", 12: "load text",
}

const plainBytes = "abcdefghijklmnopqrstuvwxyz" + "ABCDEFGHIJKLMNOPQRSTUVWXYZ" + "0123456789" + "._-:^+[]()"

func modelByteWord(text string) string {
	word := []byte("=")
	for i := 0; i < len(text); i++ {
		if strings.IndexByte(plainBytes, text[i]) >= 0 {
			word = append(word, text[i])
		} else {
			word = fmt.Appendf(word, "%%%02x", text[i])
		}
	}
	return string(word)
}

// modelField is a field's words, or nil where nothing stands in it.
func modelField(a api.Act, field string) []string {
	switch field {
	case "name":
		return []string{modelByteWord(a.Name)}
	case "other":
		return []string{modelByteWord(a.Other)}
	case "text":
		return []string{modelByteWord(a.Text)}
	case "number":
		return []string{fmt.Sprint(a.Number)}
	case "fuel":
		return []string{fmt.Sprint(a.Fuel)}
	}
	var out []string
	for _, n := range a.Names {
		out = append(out, modelByteWord(n))
	}
	return out
}

func modelPrintAct(a api.Act) (string, api.Errno) {
	form, ok := modelLines[a.Kind]
	if !ok {
		return "", api.ErrStep
	}
	parts := strings.Fields(form)
	said := parts[:1]
	asked := map[string]bool{}
	for _, f := range parts[1:] {
		asked[f] = true
		said = append(said[:len(said):len(said)], modelField(a, f)...)
	}
	for field, zero := range map[string]bool{"name": a.Name == "", "other": a.Other == "", "names": len(a.Names) == 0, "text": a.Text == "", "number": a.Number == 0, "fuel": a.Fuel == 0} {
		if !zero && !asked[field] {
			return "", api.ErrPrint
		}
	}
	line := strings.Join(said, " ")
	if len(line) > 262144 {
		return "", api.ErrLine
	}
	return line, api.OK
}

func modelPrint(p api.Play) (string, api.Errno) {
	lines := []string{fmt.Sprintf("room %d %d", p.Words, p.Oops)}
	for _, a := range p.Acts {
		line, e := modelPrintAct(a)
		if e != api.OK {
			return "", e
		}
		lines = append(lines, line)
	}
	if len(lines) > 20000 {
		return "", api.ErrLines
	}
	return strings.Join(lines, "\n") + "\n", api.OK
}

var (
	modelNumbers = regexp.MustCompile(`^(0|-?[1-9][0-9]*)$`)
	modelHidden  = regexp.MustCompile(`%[0-9a-f][0-9a-f]`)
)

func modelNumber(word string) (int, bool) {
	n, ok := new(big.Int).SetString(word, 10)
	if !ok || !modelNumbers.MatchString(word) || !n.IsInt64() {
		return 0, false
	}
	return int(n.Int64()), true
}

func modelText(word string) (string, bool) {
	if !strings.HasPrefix(word, "=") {
		return "", false
	}
	text := modelHidden.ReplaceAllStringFunc(word[1:], func(s string) string {
		b, _ := strconv.ParseUint(s[1:], 16, 8)
		return string([]byte{byte(b)})
	})
	return text, modelByteWord(text) == word
}

// modelSet puts a word into a field, and tells whether it may stand there.
func modelSet(a *api.Act, field, word string) bool {
	number, isNumber := modelNumber(word)
	text, isText := modelText(word)
	switch field {
	case "name":
		a.Name = text
	case "other":
		a.Other = text
	case "text":
		a.Text = text
	case "names":
		a.Names = append(a.Names, text)
	case "number":
		a.Number = number
		return isNumber
	case "fuel":
		a.Fuel = number
		return isNumber
	}
	return isText
}

func modelAct(words []string) (api.Act, api.Errno) {
	for kind, form := range modelLines {
		fields := strings.Fields(form)
		if fields[0] != words[0] {
			continue
		}
		fields = fields[1:]
		if least := len(fields); least > 0 && fields[least-1] == "names" {
			fields = fields[:least-1]
			for len(fields) < len(words)-1 {
				fields = append(fields, "names")
			}
		}
		if len(words)-1 != len(fields) {
			return api.Act{}, api.ErrWords
		}
		a := api.Act{Kind: kind}
		for i, f := range fields {
			if !modelSet(&a, f, words[i+1]) {
				return api.Act{}, api.ErrPlain
			}
		}
		return a, api.OK
	}
	return api.Act{}, api.ErrStep
}

func modelRoom(p *api.Play, words []string) api.Errno {
	if words[0] != "room" {
		return api.ErrText
	}
	if len(words) != 3 {
		return api.ErrWords
	}
	w, good := modelNumber(words[1])
	o, fine := modelNumber(words[2])
	if !good || !fine {
		return api.ErrPlain
	}
	p.Words, p.Oops = w, o
	return api.OK
}

// modelTextLines is what stands between newlines.
func modelTextLines(text string) []string {
	lines := strings.Split(text, "\n")
	if lines[len(lines)-1] == "" {
		lines = lines[:len(lines)-1]
	}
	return lines
}

// saying is the lines of a text that say something.
func saying(text string) []string {
	var out []string
	for _, line := range modelTextLines(text) {
		if line != "" && !strings.HasPrefix(line, "#") {
			out = append(out, line)
		}
	}
	return out
}

func modelParse(text string) (api.Play, int, api.Errno) {
	var p api.Play
	said := 0
	for i, line := range modelTextLines(text) {
		e := api.OK
		switch {
		case len(line) > 262144:
			e = api.ErrLine
		case line == "" || strings.HasPrefix(line, "#"):
		case said == 20000:
			e = api.ErrLines
		case said == 0:
			said++
			e = modelRoom(&p, strings.Split(line, " "))
		default:
			said++
			var a api.Act
			a, e = modelAct(strings.Split(line, " "))
			p.Acts = append(p.Acts, a)
		}
		if e != api.OK {
			return api.Play{}, i + 1, e
		}
	}
	if said == 0 {
		return api.Play{}, 0, api.ErrText
	}
	return p, 0, api.OK
}

// brief is the beginning of what would be too much to be told.
func brief(x any) string { return fmt.Sprintf("%.300q", fmt.Sprint(x)) }

// whole is a play with nil for each list without elements.
func whole(p api.Play) api.Play {
	acts := append([]api.Act(nil), p.Acts...)
	for i := range acts {
		if len(acts[i].Names) == 0 {
			acts[i].Names = nil
		}
	}
	p.Acts = acts
	return p
}

func same(p, q api.Play) bool { return reflect.DeepEqual(whole(p), whole(q)) }

// refuses looks at what Parse answers of a text that is refused.
func refuses(t *testing.T, text string, line int, code api.Errno) {
	t.Helper()
	p, err := script.Parse(text)
	if err == nil {
		t.Errorf("Parse(%s) = %s, and no error, want {%d %d}", brief(text), brief(p), line, code)
		return
	}
	var le *script.LineError
	if le, _ = err.(*script.LineError); le == nil {
		t.Errorf("Parse(%s): the error %v is no *LineError", brief(text), err)
		return
	}
	if *le != (script.LineError{Line: line, Code: code}) {
		t.Errorf("Parse(%s): %v, want {%d %d}", brief(text), *le, line, code)
	}
	if !reflect.DeepEqual(p, api.Play{}) {
		t.Errorf("Parse(%s) = %s beside the error %v, want the zero play", brief(text), brief(p), err)
	}
	if !errors.Is(err, script.Refused) || err.Error() != fmt.Sprintf("line %d: code %d", line, code) {
		t.Errorf("Parse(%s): the error says %q, Refused in it: %v", brief(text), err, errors.Is(err, script.Refused))
	}
}

// gives looks at what Parse answers of a text that is taken.
func gives(t *testing.T, text string, want api.Play) {
	t.Helper()
	p, err := script.Parse(text)
	if err != nil || !same(p, want) {
		t.Errorf("Parse(%s) = %s, %v, want %s", brief(text), brief(p), err, brief(want))
	}
}

// parses holds Parse against the model, and what it answers against what is printed of it.
func parses(t *testing.T, text string) api.Errno {
	t.Helper()
	p, line, code := modelParse(text)
	if code != api.OK {
		refuses(t, text, line, code)
		return code
	}
	gives(t, text, p)
	printed, e := script.Print(p)
	if want := strings.Join(saying(text), "\n") + "\n"; e != api.OK || printed != want {
		t.Errorf("Print of what Parse(%s) answers = %s, %d, want %s", brief(text), brief(printed), e, brief(want))
	}
	return api.OK
}

// prints holds Print against the model, and what it answers against what is read of it.
func prints(t *testing.T, p api.Play) api.Errno {
	t.Helper()
	want, code := modelPrint(p)
	got, e := script.Print(p)
	if got != want || e != code {
		t.Errorf("Print(%s) = %s, %d, want %s, %d", brief(p), brief(got), e, brief(want), code)
	}
	if e == api.OK {
		gives(t, got, p)
	}
	return code
}

// actPrints holds PrintAct against the model.
func actPrints(t *testing.T, a api.Act) api.Errno {
	t.Helper()
	want, code := modelPrintAct(a)
	if got, e := script.PrintAct(a); got != want || e != code {
		t.Errorf("PrintAct(%s) = %s, %d, want %s, %d", brief(a), brief(got), e, brief(want), code)
	}
	return code
}
