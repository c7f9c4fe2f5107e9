package desk

import (
	"strconv"
	"strings"

	"lattice/api"
)

// How words are written.
const (
	blank  = " " // stands between words
	empty  = "-" // is the empty text
	escape = `\x`
	digits = "0123456789abcdef"

	maxNumber = 1 << 40
)

// broken is what reading panics with, where a line is not as it must be.
type broken struct{}

// reason is the error of a line at which reading gave up. A panic that is not of that goes on: it is no line's fault.
func reason(told any) api.Errno {
	if _, ours := told.(broken); !ours {
		panic(told)
	}
	return api.ErrForm
}

// need gives up where something does not hold.
func need(ok bool) {
	if !ok {
		panic(broken{})
	}
}

// words are those of a line, behind its first one: a command goes through them, and each is read to where it is handed, or written as that says.
type words interface {
	number(n *int)
	text(s *string)
}

// reader reads what a line's words say.
type reader struct {
	left []string
}

// readerOf is one of all of a line's words.
func readerOf(line string) *reader { return &reader{left: strings.Split(line, blank)} }

// word is the next one.
func (r *reader) word() string {
	need(len(r.left) > 0)
	w := r.left[0]
	r.left = r.left[1:]
	return w
}

// number and text hold what a word says against how that is written, as there is one way only.

func (r *reader) number(n *int) {
	w := r.word()
	got, err := strconv.Atoi(w)
	need(err == nil && got >= 0 && got <= maxNumber && strconv.Itoa(got) == w)
	*n = got
}

func (r *reader) text(s *string) {
	w := r.word()
	got := told(w)
	need(textWord(got) == w)
	*s = got
}

// end gives up where words are left.
func (r *reader) end() { need(len(r.left) == 0) }

// writer writes what a choice says.
type writer struct {
	said []string
}

func (w *writer) number(n *int) { w.said = append(w.said, strconv.Itoa(*n)) }

func (w *writer) text(s *string) { w.said = append(w.said, textWord(*s)) }

// textWord is the word of a text.
func textWord(s string) string {
	switch s {
	case "":
		return empty
	case empty: // which would be taken for that
		return escaped(s[0])
	}
	var w strings.Builder
	for i := range len(s) {
		if isPlain(s[i]) {
			w.WriteByte(s[i])
		} else {
			w.WriteString(escaped(s[i]))
		}
	}
	return w.String()
}

// isPlain tells whether a byte stands for itself.
func isPlain(b byte) bool { return b > ' ' && b <= '~' && b != '\\' }

// escaped is how a byte is written that does not.
func escaped(b byte) string { return escape + digits[b>>4:b>>4+1] + digits[b&15:b&15+1] }

// told is the text of which a word may be the word.
func told(w string) string {
	if w == empty {
		return ""
	}
	var s []byte
	for w != "" {
		b, size := w[0], 1
		if code, ok := strings.CutPrefix(w, escape); ok {
			need(len(code) >= 2)
			b, size = byteOf(code[:2]), len(escape)+2
		}
		s = append(s, b)
		w = w[size:]
	}
	return string(s)
}

// byteOf is the byte of two hex digits.
func byteOf(code string) byte {
	high, low := strings.IndexByte(digits, code[0]), strings.IndexByte(digits, code[1])
	need(high >= 0 && low >= 0)
	return byte(high<<4 | low)
}
