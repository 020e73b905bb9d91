package farm

import (
	"strconv"
	"strings"

	"burin/api"
	"burin/oracle"
)

// The words with which the lines of a report's text begin.
const (
	passesWord  = "passes"
	faultsWord  = "faults"
	verdictWord = "verdict"
	programWord = "program"
	reducedWord = "reduced"
)

const mostBits = 255 // of passes and of faults

// Text: a report's text.
func Text(passes, faults, kind byte, program, reduced string) string {
	var b strings.Builder
	line := func(word, what string) { b.WriteString(word + " " + what + "\n") }
	line(passesWord, strconv.Itoa(int(passes)))
	line(faultsWord, strconv.Itoa(int(faults)))
	line(verdictWord, verdict(kind))
	line(programWord, strconv.Itoa(len(program)))
	b.WriteString(program)
	line(reducedWord, strconv.Itoa(len(reduced)))
	b.WriteString(reduced)
	return b.String()
}

// verdict: the word of a verdict's kind.
func verdict(kind byte) string {
	switch kind {
	case oracle.Agree:
		return "agree"
	case oracle.Mismatch:
		return "mismatch"
	}
	return "invalid"
}

// kindOf: the kind whose word that is.
func kindOf(word string) (byte, bool) {
	for _, kind := range []byte{oracle.Invalid, oracle.Agree, oracle.Mismatch} {
		if word == verdict(kind) {
			return kind, true
		}
	}
	return 0, false
}

// told is what a report's text tells.
type told struct {
	passes  byte
	faults  byte
	kind    byte
	program string
	reduced string
}

// read: what a report's text tells, if it is one.
func read(text string) (told, bool) {
	r := reader{rest: text, ok: true}
	t := told{
		passes:  byte(r.number(passesWord, mostBits)),
		faults:  byte(r.number(faultsWord, mostBits)),
		kind:    r.kind(),
		program: r.piece(programWord),
		reduced: r.piece(reducedWord),
	}
	if !r.ok || r.rest != "" {
		return told{}, false
	}
	return t, true
}

// reader takes a text line by line; ok falls with the first line that isn't of the form, and nothing that is taken behind it raises it again.
type reader struct {
	rest string
	ok   bool
}

// line: what stands in the next line behind its word; of one that isn't of the form nothing, which is neither a number nor a verdict's word.
func (r *reader) line(word string) string {
	whole, rest, ended := strings.Cut(r.rest, "\n")
	what, begins := strings.CutPrefix(whole, word+" ")
	if !ended || !begins {
		return ""
	}
	r.rest = rest
	return what
}

// number: that of the next line, at most so great.
func (r *reader) number(word string, most int) int {
	digits := r.line(word)
	v, err := strconv.Atoi(digits)
	// What is told again in the same way has neither a sign nor noughts in front.
	if err != nil || v < 0 || v > most || strconv.Itoa(v) != digits {
		r.ok = false
		return 0
	}
	return v
}

// kind: the verdict's, of whose word the next line tells.
func (r *reader) kind() byte {
	kind, known := kindOf(r.line(verdictWord))
	if !known {
		r.ok = false
	}
	return kind
}

// piece: as many bytes as the next line tells, which stand behind it.
func (r *reader) piece(word string) string {
	size := r.number(word, api.MaxSource)
	if size > len(r.rest) {
		r.ok = false
		return ""
	}
	s := r.rest[:size]
	r.rest = r.rest[size:]
	return s
}
