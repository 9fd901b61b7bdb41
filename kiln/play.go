package kiln

import (
	"errors"
	"strconv"
	"strings"

	"kiln/api"
	"kiln/script"
)

// Play runs a whole text and answers the log.
func Play(text string) string {
	p, err := script.Parse(text)
	if err != nil {
		return refusedText(err)
	}
	m, e := New(p.Words, p.Oops)
	if e != api.OK {
		return refusedLine(0, e)
	}
	var log strings.Builder
	for _, a := range p.Acts {
		// Each act was a line: so it can be written as one.
		line, _ := script.PrintAct(a)
		log.WriteString("> " + line + "\n")
		log.WriteString(script.Tell(m.Do(a)))
	}
	return log.String()
}

// refusedText is the log of a text that is no play.
func refusedText(err error) string {
	var fault *script.LineError
	if !errors.As(err, &fault) {
		return refusedLine(0, api.ErrText)
	}
	return refusedLine(fault.Line, fault.Code)
}

func refusedLine(line int, e api.Errno) string {
	return "refused " + strconv.Itoa(line) + " " + strconv.Itoa(int(e)) + "\n"
}
