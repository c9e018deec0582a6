package text

import (
	"strings"

	"pollarding/api"
)

// maxDigits is how many digits a number of a line may have (I2).
const maxDigits = 4

// scanner goes through a line. Once something else stands there than is looked for, it is wrong for good, so that it need be asked only at the end.
type scanner struct {
	rest  string
	wrong bool
}

func (s *scanner) more() bool { return !s.wrong && s.rest != "" }

func (s *scanner) done() bool { return !s.wrong && s.rest == "" }

func (s *scanner) word(w string) {
	if !s.takes(w) {
		s.wrong = true
	}
}

// takes goes beyond w, if it stands next.
func (s *scanner) takes(w string) bool {
	rest, ok := strings.CutPrefix(s.rest, w)
	s.rest = rest
	return ok
}

// symbol reads a symbol and the blank ahead of it.
func (s *scanner) symbol() api.Sym {
	s.word(blank)
	isTerm := s.takes(termMark)
	if !isTerm {
		s.word(nameMark)
	}
	return api.Sym{Term: isTerm, N: s.number()}
}

// number reads a number. A digit too many, or one behind a 0 ahead, is left where it stands: nothing that may follow a number begins with one.
func (s *scanner) number() int {
	n, size := 0, 0
	for size < min(len(s.rest), maxDigits) && isDigit(s.rest[size]) && (size == 0 || n > 0) {
		n = n*10 + int(s.rest[size]-'0')
		size++
	}
	if size == 0 {
		s.wrong = true
	}
	s.rest = s.rest[size:]
	return n
}

func isDigit(b byte) bool { return b >= '0' && b <= '9' }
