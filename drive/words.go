package drive

import (
	"strconv"
	"strings"

	"pollarding/api"
)

// maxNumber is the greatest NUMBER (J1).
const maxNumber = 999999

// blank stands between the words of lines and of answers.
const blank = " "

// told answers a word, and numbers behind it.
func told(word string, numbers ...int) string {
	return word + blank + inDigits(numbers...)
}

func inDigits(numbers ...int) string {
	words := make([]string, len(numbers))
	for i, n := range numbers {
		words[i] = strconv.Itoa(n)
	}
	return strings.Join(words, blank)
}

// readNumbers reads a line of a word and NUMBERs, each behind a blank. Of very many, one beyond what tokens there may be is kept, so that they are too many; a long line takes no more memory.
func readNumbers(line string) (word string, numbers []int, ok bool) {
	word, rest, more := strings.Cut(line, blank)
	for more {
		var next string
		next, rest, more = strings.Cut(rest, blank)
		n, isNumber := readNumber(next)
		if !isNumber {
			return "", nil, false
		}
		if len(numbers) <= api.MaxTokens {
			numbers = append(numbers, n)
		}
	}
	return word, numbers, true
}

// readNumber reads a NUMBER: a word that is just what its number is written as, so that there is no sign and no 0 ahead.
func readNumber(word string) (int, bool) {
	n, e := strconv.Atoi(word)
	return n, e == nil && n >= 0 && n <= maxNumber && strconv.Itoa(n) == word
}
