package desk

import (
	"strconv"
	"strings"

	"amphora/api"
)

// most is the greatest number that a word says: nine digits, as of the least one.
const most = 999999999

// digits is the hexadecimal ones.
const digits = "0123456789abcdef"

// none is the word of no bytes.
const none = "."

// hexed is bytes as a word.
func hexed(b []byte) string {
	if len(b) == 0 {
		return none
	}
	word := make([]byte, 0, 2*len(b))
	for _, x := range b {
		word = append(word, digits[x>>4], digits[x&15])
	}
	return string(word)
}

// writer tells the words of a line.
type writer struct{ words []string }

func (w *writer) number(field *int) { w.words = append(w.words, strconv.Itoa(*field)) }

func (w *writer) key(field *string) { w.words = append(w.words, *field) }

func (w *writer) bytes(field *[]byte) { w.words = append(w.words, hexed(*field)) }

func (w *writer) numbers(field *[]int, least int) {
	for i := range *field {
		w.number(&(*field)[i])
	}
}

// reader reads the words of a line. It gives up by panic, with a fault, so that
// nobody has to ask behind each word.
type reader struct {
	at    int      // the line's number
	words []string // those that were not read yet
}

// need gives up, unless it is so.
func (r *reader) need(so bool, why api.Errno) {
	if !so {
		panic(api.Fault{At: r.at, Why: why})
	}
}

// turn goes on to a line; whether it has words.
func (r *reader) turn(at int, line string) bool {
	r.at = at
	r.words = strings.FieldsFunc(line, func(c rune) bool { return c == ' ' })
	return len(r.words) > 0
}

// word is the next one.
func (r *reader) word() string {
	r.need(len(r.words) > 0, api.ErrScript)
	word := r.words[0]
	r.words = r.words[1:]
	return word
}

// end gives up, if words are left.
func (r *reader) end() { r.need(len(r.words) == 0, api.ErrScript) }

// number reads one: there is just one word for each.
func (r *reader) number(field *int) {
	word := r.word()
	n, err := strconv.Atoi(word)
	r.need(err == nil && n >= -most && n <= most && strconv.Itoa(n) == word, api.ErrScript)
	*field = n
}

func (r *reader) key(field *string) { *field = r.word() }

func (r *reader) bytes(field *[]byte) {
	word := r.word()
	if word == none {
		return
	}
	r.need(len(word)%2 == 0, api.ErrScript)
	for i := 0; i < len(word); i += 2 {
		*field = append(*field, r.digit(word[i])<<4|r.digit(word[i+1]))
	}
}

// digit is what a hexadecimal one says.
func (r *reader) digit(c byte) byte {
	n := strings.IndexByte(digits, c)
	r.need(n >= 0, api.ErrScript)
	return byte(n)
}

func (r *reader) numbers(field *[]int, least int) {
	r.need(len(r.words) >= least, api.ErrScript)
	for len(r.words) > 0 {
		var n int
		r.number(&n)
		*field = append(*field, n)
	}
}
