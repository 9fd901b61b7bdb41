package script_test

import (
	"strings"
	"testing"

	"kiln/api"
	"kiln/script"
)

// P24.3: what stands between newlines; the last of them may be missing.
func TestLines(t *testing.T) {
	save := api.Play{Words: 1, Oops: 2, Acts: []api.Act{{Kind: api.ActSave}}}
	for _, text := range []string{
		"room 1 2\nsave", "room 1 2\nsave\n", "\n\nroom 1 2\nsave", "#\nroom 1 2\n#\n\nsave\n\n#", "#room 1 3\nroom 1 2\n#save\nsave\n# \n", "##\x00\xff\nroom 1 2\n\n\n\nsave\n\n\n",
	} {
		gives(t, text, save)
	}
	gives(t, "room 1 2", api.Play{Words: 1, Oops: 2})
	for _, text := range []string{"", "\n", "\n\n\n", "#", "#\n", "# room 1 2", "#\n\n#room 1 2\n"} {
		refuses(t, text, 0, api.ErrText)
	}
}

// P24.3: all lines are counted, from 1 on.
func TestPlaceOfLine(t *testing.T) {
	refuses(t, "nope\n", 1, api.ErrText)
	refuses(t, "\nnope\n", 2, api.ErrText)
	refuses(t, "#\n\n#\nnope\nnope", 4, api.ErrText)
	refuses(t, "\n#\nroom 1\n", 3, api.ErrWords)
	refuses(t, "room 1 2\nnope", 2, api.ErrStep)
	refuses(t, "room 1 2\n\n#\nsave\n\nnope\n", 6, api.ErrStep)
	refuses(t, "room 1 2\n"+strings.Repeat("#\n", 100000)+"nope", 100002, api.ErrStep)
	refuses(t, strings.Repeat("\n", 1<<20)+"room 1", 1<<20+1, api.ErrWords)
}

// P24.3: blanks part words, and nothing else does; a comment begins with the line's first byte.
func TestBlanks(t *testing.T) {
	for _, text := range []string{
		" room 1 2", "room  1 2", "room 1 2 ", "room 1  2", "room 1 2\r", "room\t1 2", "room 1\t2", "\ufeffroom 1 2", " ", "  ", "\t", "\r", " #", "room", "room ", "room  ", "room   ", "room 1 2 #", "room 1 2 3", "Room 1 2", "ROOM 1 2", "rooms 1 2", "roo 1 2", "=room 1 2",
	} {
		if parses(t, text) == api.OK || parses(t, text+"\nsave") == api.OK {
			t.Errorf("%q was taken", text)
		}
	}
	for _, text := range []string{
		" ", "  ", " save", "save ", "save  ", "save\r", "save\t", "\tsave", " #", "save #", "save=", "save =", "Save", "saves", "sav", "=save", "load  =", "load = ", "load", "load ", "load  ", " load =", "run 1 2 ", "run  1 2", "run 1  2", "class =P =O ", "class =P =O  =x", "reshape =P ", "reshape ", "room 1 2", "room", "nope", "answer", "refused", "load\x00=", "load\u00a0=",
	} {
		if parses(t, "room 1 2\n"+text) == api.OK || parses(t, "room 1 2\n"+text+"\nsave\n") == api.OK {
			t.Errorf("%q was taken", text)
		}
	}
}

// P24.3: as many words as the act asks for: each number of words of each kind that may stand there.
func TestCounts(t *testing.T) {
	least := map[int]int{1: 3, 2: 3, 3: 3, 4: 2, 5: 2, 6: 3, 7: 2, 8: 1, 9: 1, 10: 2, 11: 1, 12: 2}
	for kind, form := range modelLines {
		word := "=x"
		if kind == api.ActRun || kind == api.ActMark {
			word = "7"
		}
		for n := 1; n <= 8; n++ {
			code := api.ErrWords
			more := kind == api.ActClass || kind == api.ActReshape
			if n == least[kind] || more && n > least[kind] {
				code = api.OK
			}
			name, _, _ := strings.Cut(form, " ")
			text := "room 1 2\n" + name + strings.Repeat(" "+word, n-1)
			if e := parses(t, text); e != code {
				t.Errorf("Parse(%q): %d, want %d", text, e, code)
			}
			// The count is asked ahead of the words' kind.
			for _, wrong := range []string{" ", " x", " 01"} {
				text := "room 1 2\n" + name + strings.Repeat(wrong, n-1)
				if e := parses(t, text); code == api.ErrWords && e != code || code == api.OK && n > 1 && e != api.ErrPlain {
					t.Errorf("Parse(%q): %d", text, e)
				}
			}
		}
	}
}

// P24.3: a word that is not of the kind that is asked for, at each place.
func TestKinds(t *testing.T) {
	for kind, form := range modelLines {
		good, _ := script.PrintAct(full(kind))
		list := strings.Split(good, " ")
		for i := 1; i < len(list); i++ {
			for _, w := range []string{"", "x", "=x", "5", "=", "=%", "=%78", "-0", "room"} {
				spoilt := append([]string(nil), list...)
				spoilt[i] = w
				number := strings.Contains(form, "number")
				code := api.ErrPlain
				if number && w == "5" || !number && (w == "=" || w == "=x") {
					code = api.OK
				}
				text := "room 1 2\n#\n" + strings.Join(spoilt, " ") + "\nnope\n"
				if code == api.OK {
					refuses(t, text, 4, api.ErrStep)
				} else {
					refuses(t, text, 3, code)
				}
			}
		}
	}
}

// P24.3: the room's line, its errors in their order; it is said but once.
func TestRoomLine(t *testing.T) {
	refuses(t, "save 1 x", 1, api.ErrText)
	refuses(t, "save", 1, api.ErrText)
	refuses(t, " 1 2", 1, api.ErrText)
	refuses(t, "room x", 1, api.ErrWords)
	refuses(t, "room x y z", 1, api.ErrWords)
	refuses(t, "room =1 =2", 1, api.ErrPlain)
	refuses(t, "room 1 2\nroom", 2, api.ErrStep)
	refuses(t, "room 1 2\nroom x y", 2, api.ErrStep)
	gives(t, "room -5 0", api.Play{Words: -5})
}

// P24.3: the first line that is wrong is told, whatever is wrong behind it.
func TestFirstWrongLine(t *testing.T) {
	bad := map[string]api.Errno{"nope": api.ErrStep, "save x": api.ErrWords, "global x": api.ErrPlain, "#" + strings.Repeat("x", 262144): api.ErrLine}
	for x, code := range bad {
		for y := range bad {
			refuses(t, "room 1 2\nsave\n"+x+"\n"+y, 3, code)
			refuses(t, "room 1 2\n"+x+"\nsave\n"+y+"\n", 2, code)
			if code != api.ErrLine {
				refuses(t, x+"\n"+y+"\nroom 1 2\n", 1, api.ErrText)
			}
		}
	}
}

// P24.3: the longest line, and one byte more: what it says makes no difference.
func TestLongLines(t *testing.T) {
	for _, begin := range []string{"#", "load =", "nope ", "room 1 ", " ", "", "class =P =O ", "mark 1"} {
		fit := begin + strings.Repeat("x", 262144-len(begin))
		for _, end := range []string{"", "\n", "\nsave\n"} {
			parses(t, fit+end)
			parses(t, "room 1 2\n"+fit+end)
			refuses(t, "room 1 2\n"+fit+"x"+end, 2, api.ErrLine)
			refuses(t, fit+"y"+end, 1, api.ErrLine)
			refuses(t, "\n"+fit+"y\nroom 1 2"+end, 2, api.ErrLine)
		}
	}
	gives(t, "room 1 2\nload ="+strings.Repeat("x", 262138), api.Play{Words: 1, Oops: 2, Acts: []api.Act{{Kind: 12, Text: strings.Repeat("x", 262138)}}})
	gives(t, "#"+strings.Repeat("x", 262143)+"\nroom 1 2\n#"+strings.Repeat(" ", 262143), api.Play{Words: 1, Oops: 2})
	refuses(t, strings.Repeat("x", 1<<26), 1, api.ErrLine)
	refuses(t, "room 1 2\n"+strings.Repeat(" ", 262144), 2, api.ErrStep)
	if e := parses(t, "room 1 2\nreshape ="+strings.Repeat(" =", (262144-9)/2)); e != api.OK {
		t.Errorf("the most names: %d", e)
	}
}

// P24.3: how many lines may say something; of the one too many its length is asked ahead of it, and nothing else.
func TestManyLines(t *testing.T) {
	most := "room 1 2\n" + strings.Repeat("save\n", 19999)
	long := "#" + strings.Repeat("x", 262144)
	want := api.Play{Words: 1, Oops: 2}
	for range 19999 {
		want.Acts = append(want.Acts, api.Act{Kind: api.ActSave})
	}
	gives(t, most, want)
	gives(t, most+"#\n\n#\n", want)
	gives(t, strings.Replace(most, "save\nsave\n", "save\n#\n\nsave\n", 1000)+"\n", want)
	for _, last := range []string{"save", "save\n", "nope", "save x", "global x", "room 1 2", " ", "x\n#\n"} {
		refuses(t, most+last, 20001, api.ErrLines)
		refuses(t, "#\n"+most+"\n#\n"+last, 20004, api.ErrLines)
	}
	refuses(t, most+long, 20001, api.ErrLine)
	refuses(t, most+"\n"+long[1:]+"x", 20002, api.ErrLine)
	refuses(t, most[:len(most)-2]+"x\nsave", 20000, api.ErrStep)
	refuses(t, most+"save\n"+long, 20001, api.ErrLines)
	refuses(t, strings.Repeat("x\n", 30000), 1, api.ErrText)
}

// P24.5: the error, of each line and code, and of one that is not there.
func TestErrorText(t *testing.T) {
	for _, c := range []struct {
		line int
		code api.Errno
		want string
	}{{0, 240, "line 0: code 240"}, {3, 244, "line 3: code 244"}, {-1, -2, "line -1: code -2"}, {1 << 62, 0, "line 4611686018427387904: code 0"}} {
		e := &script.LineError{Line: c.line, Code: c.code}
		if e.Error() != c.want || e.Unwrap() != script.Refused {
			t.Errorf("%v: Error() = %q, Unwrap() = %v", *e, e.Error(), e.Unwrap())
		}
	}
	var none *script.LineError
	if none.Error() != "" || none.Unwrap() != script.Refused {
		t.Errorf("of none: Error() = %q, Unwrap() = %v", none.Error(), none.Unwrap())
	}
	if script.Refused == nil || script.Refused.Error() == "" {
		t.Errorf("Refused says nothing")
	}
	if _, err := script.Parse("room 1 2"); err != nil {
		t.Errorf("a play without an error: %v", err)
	}
}

// P24.7: great texts.
func TestGreatTexts(t *testing.T) {
	refuses(t, strings.Repeat("\n", 1<<26), 0, api.ErrText)
	refuses(t, strings.Repeat("#\n", 1<<24)+"room", 1<<24+1, api.ErrWords)
	refuses(t, "room 1 2\n"+strings.Repeat("\n", 1<<24)+"load", 1<<24+2, api.ErrWords)
}
