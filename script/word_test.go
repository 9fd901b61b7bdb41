package script_test

import (
	"fmt"
	"math"
	"strings"
	"testing"

	"kiln/api"
	"kiln/script"
)

// P24.1, P24.3: every byte, and each behind each, is written in one way, and read in that way alone.
func TestEveryByte(t *testing.T) {
	for b := range 256 {
		actPrints(t, api.Act{Kind: api.ActLoad, Text: string([]byte{byte(b)})})
		for c := range 256 {
			a := api.Act{Kind: api.ActLoad, Text: string([]byte{byte(b), byte(c)})}
			actPrints(t, a)
			written, _ := script.PrintAct(a)
			gives(t, "room 0 0\n"+written, api.Play{Acts: []api.Act{a}})
		}
	}
}

// P24.3: each byte as it stands, and by two digits, and by two digits of other kinds.
func TestEveryByteRead(t *testing.T) {
	for b := range 256 {
		text := string([]byte{byte(b)})
		hidden := fmt.Sprintf("%%%02x", b)
		if strings.Contains(plainBytes, text) {
			gives(t, "room 0 0\nload =a"+text+"z", api.Play{Acts: []api.Act{{Kind: 12, Text: "a" + text + "z"}}})
			refuses(t, "room 0 0\nload =a"+hidden+"z", 2, api.ErrPlain)
		} else {
			gives(t, "room 0 0\nload =a"+hidden+"z", api.Play{Acts: []api.Act{{Kind: 12, Text: "a" + text + "z"}}})
			if text != " " && text != "\n" {
				refuses(t, "room 0 0\nload =a"+text+"z", 2, api.ErrPlain)
			}
		}
		if upper := strings.ToUpper(hidden); upper != hidden {
			refuses(t, "room 0 0\nload =a"+upper+"z", 2, api.ErrPlain)
		}
		for _, spoilt := range []string{"%" + text + "f", "%f" + text, "%" + text, text + "%2", text + "%", "%%" + text} {
			parses(t, "room 0 0\nload ="+spoilt)
			parses(t, "room 0 0\nload ="+spoilt+"x")
		}
	}
}

// P24.3: texts of runes, whole and broken, are read and written byte by byte.
func TestRunes(t *testing.T) {
	for _, c := range []struct{ text, word string }{
		{"\u00e9", "=%c3%a9"}, {"a\u20acb", "=a%e2%82%acb"}, {"\U0001f525", "=%f0%9f%94%a5"}, {"\ufffd", "=%ef%bf%bd"}, {"\xff", "=%ff"},
		{"\xe2\x82", "=%e2%82"}, {"\xe2x\x82", "=%e2x%82"}, {"\xc0\x80", "=%c0%80"}, {"\xed\xa0\x80", "=%ed%a0%80"}, {"\x80\x80x", "=%80%80x"},
		{"\x00", "=%00"}, {"%", "=%25"}, {"%41", "=%2541"}, {"==", "=%3d%3d"}, {" ", "=%20"}, {"\n\r\t", "=%0a%0d%09"}, {"#", "=%23"}, {"\x7f", "=%7f"},
		{"/,;<>@{}|~", "=%2f%2c%3b%3c%3e%40%7b%7d%7c%7e"}, {plainBytes, "=" + plainBytes}, {"\u0141\u0130", "=%c5%81%c4%b0"},
	} {
		line(t, api.Act{Kind: api.ActSpawn, Text: c.text}, "spawn "+c.word, api.OK)
		gives(t, "room 0 0\nspawn "+c.word, api.Play{Acts: []api.Act{{Kind: api.ActSpawn, Text: c.text}}})
		if c.text != plainBytes && !strings.ContainsAny(c.text, " \n") {
			refuses(t, "room 0 0\nspawn ="+c.text, 2, api.ErrPlain)
		}
	}
}

// P24.3: words that are nearly byte words.
func TestNoByteWords(t *testing.T) {
	for _, w := range []string{
		"", "x", "==", "x=", "%3d", "%3dx", "=%", "=%2", "=%%", "=%2g", "=%g2", "=% 20", "=%2%30", "=%20%", "=%20%2", "=a=", "=\r", "=x\r", "=\t", "=\"", "=%2F", "=%2e", "=%5E", "=%5e", "=%28", "=%7A", "=%7a", "=%30",
		"=\u00b2", "=\u0661", "=%\u0662\u0660", "\uff1d", "=\uff41", "0", "-1", "=#", "#",
	} {
		if c := parses(t, "room 0 0\nglobal "+w); c == api.OK {
			t.Errorf("%q was taken", w)
		}
		parses(t, "room 0 0\nclass =P =O =x "+w+" =y")
	}
	for _, w := range []string{"=", "=x", "=0", "=-", "=.", "=[(^_^)]", "=%3d", "=%20", "=%2520", "=room", "=a+b-c:"} {
		if c := parses(t, "room 0 0\nglobal "+w); c != api.OK {
			t.Errorf("%q: %d", w, c)
		}
	}
}

// P24.3: numbers, in each place in which they stand.
func TestNumberWords(t *testing.T) {
	good := map[string]int{
		"0": 0, "1": 1, "-1": -1, "10": 10, "-10": -10, "9223372036854775807": math.MaxInt, "-9223372036854775808": math.MinInt, "4294967296": 1 << 32,
	}
	for w, n := range good {
		gives(t, "room "+w+" 3", api.Play{Words: n, Oops: 3})
		gives(t, "room 3 "+w, api.Play{Words: 3, Oops: n})
		gives(t, "room 0 0\nrun "+w+" 4\nrun 4 "+w+"\nmark "+w, api.Play{Acts: []api.Act{
			{Kind: api.ActRun, Number: n, Fuel: 4}, {Kind: api.ActRun, Number: 4, Fuel: n}, {Kind: api.ActMark, Number: n},
		}})
	}
	for _, w := range []string{
		"", "+1", "+0", "-0", "00", "01", "-01", "-", "--1", "1-", "1_0", "0x1", "0b1", "0o7", "1e3", "1.0", "1.", "x", "=1", "1\r", "1\t", "\t1", "\u0661", "1\x00",
		"9223372036854775808", "-9223372036854775809", "18446744073709551616", "99999999999999999999999", strings.Repeat("1", 1000), "-" + strings.Repeat("0", 1000), "nil", "Inf", "#1",
	} {
		refuses(t, "room "+w+" 3", 1, api.ErrPlain)
		refuses(t, "room 3 "+w, 1, api.ErrPlain)
		refuses(t, "room 0 0\nrun "+w+" 4", 2, api.ErrPlain)
		refuses(t, "room 0 0\nrun 4 "+w, 2, api.ErrPlain)
		refuses(t, "room 0 0\nmark "+w, 2, api.ErrPlain)
	}
}
