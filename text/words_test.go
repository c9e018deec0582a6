package text_test

import (
	"regexp"
	"strconv"
	"strings"
	"testing"

	"pollarding/api"
	"pollarding/gram"
	"pollarding/text"
)

// The forms of lines by I1's words, with numbers of up to four digits.
var (
	headForm = regexp.MustCompile(`\Aterms (0|[1-9][0-9]{0,3}) names (0|[1-9][0-9]{0,3})\z`)
	ruleForm = regexp.MustCompile(`\An(0|[1-9][0-9]{0,3}):(?: [tn](?:0|[1-9][0-9]{0,3}))*\z`)
)

// byWords answers what Parse is to answer, by forms instead of a scanner.
func byWords(s string) (api.Grammar, api.Fault) {
	parts := strings.Split(s, "\n")
	ended, tail := parts[:len(parts)-1], parts[len(parts)-1]
	var g api.Grammar
	for at, line := range ended {
		form := ruleForm
		if at == 0 {
			form = headForm
		}
		found := form.FindStringSubmatch(line)
		if found == nil {
			return api.Grammar{}, api.Fault{Code: api.ErrForm, At: at}
		}
		if at == 0 {
			g.Terms, g.Names = digits(found[1]), digits(found[2])
			continue
		}
		g.Rules = append(g.Rules, rule(digits(found[1]), symbols(line)...))
	}
	if tail != "" || !gram.May(g) {
		return api.Grammar{}, api.Fault{Code: api.ErrForm, At: len(ended)}
	}
	return g, api.Fault{}
}

func symbols(line string) []api.Sym {
	var out []api.Sym
	for _, word := range strings.Fields(line)[1:] {
		out = append(out, api.Sym{Term: word[0] == 't', N: digits(word[1:])})
	}
	return out
}

func digits(s string) int {
	n, e := strconv.Atoi(s)
	if e != nil {
		panic(e)
	}
	return n
}

// checkWords holds Parse against the words; and what is read is written as the same bytes.
func checkWords(t *testing.T, s string) {
	t.Helper()
	g, f := text.Parse(s)
	want, fault := byWords(s)
	if f != fault || !same(g, want) {
		t.Fatalf("Parse of %q: %v %v, not %v %v", s, g, f, want, fault)
	}
	if f.Code == api.OK && printed(t, g) != s {
		t.Fatalf("Print of what Parse answers of %q: %q", s, printed(t, g))
	}
}

// I2: what is written is read as the same, of many grammars.
func TestReadAsTheSame(t *testing.T) {
	eachSmall(func(g api.Grammar) {
		s := printed(t, g)
		if back := parsed(t, s); !same(back, g) {
			t.Fatalf("%v has become %v, by %q", g, back, s)
		}
		if strings.Count(s, "\n") != len(g.Rules)+1 {
			t.Fatalf("%v: not a line of each rule and one: %q", g, s)
		}
		checkWords(t, s)
	})
}

// I2: all heads and rules of small numbers, within what may be and beyond it.
func TestSmallNumbers(t *testing.T) {
	for terms := range 12 {
		for names := range 16 {
			head := "terms " + strconv.Itoa(terms) + " names " + strconv.Itoa(names)
			checkWords(t, lines(head))
			for n := range 16 {
				number := strconv.Itoa(n)
				checkWords(t, lines(head, "n"+number+":"))
				checkWords(t, lines(head, "n0: t"+number))
				checkWords(t, lines(head, "n0: n"+number, "n0:"))
			}
		}
	}
}

// I2: numbers of zero to six digits, wherever a number stands.
func TestDigits(t *testing.T) {
	numbers := []string{""}
	for n, more := 0, []string{""}; n < 6; n++ {
		var next []string
		for _, s := range more {
			next = append(next, s+"0", s+"1", s+"9")
		}
		numbers = append(numbers, next...)
		more = next
	}
	for _, n := range numbers {
		checkWords(t, lines("terms "+n+" names 1", "n0:"))
		checkWords(t, lines("terms 1 names "+n, "n0:"))
		checkWords(t, lines("terms 8 names 12", "n"+n+":", "n0:"))
		checkWords(t, lines("terms 8 names 12", "n0: t"+n, "n0:"))
		checkWords(t, lines("terms 8 names 12", "n0: n"+n+" t0"))
		checkWords(t, lines("terms 8 names 12", "n0: n"+n+" t0", "x"))
	}
}

// I2: texts with one byte left out, put in, or another one, and with two lines changing places.
func TestNearTexts(t *testing.T) {
	bytes := "0123789:;tnmsae rN-/\n\r\t\x00\xff|"
	for _, s := range []string{chapterText, "terms 8 names 12\nn11: t7 n10\nn9:\nn0: n1\n", "terms 0 names 1\n", "terms 1000 names 9999\nn9999: t9999\n"} {
		for i := range len(s) {
			checkWords(t, s[:i]+s[i+1:])
			checkWords(t, s[:i])
			checkWords(t, s[i:])
			for k := range len(bytes) {
				checkWords(t, s[:i]+bytes[k:k+1]+s[i:])
				checkWords(t, s[:i]+bytes[k:k+1]+s[i+1:])
				checkWords(t, s+bytes[k:k+1])
			}
			for k := i; k < len(s); k++ {
				checkWords(t, s[:i]+s[k:])
				checkWords(t, s[:k]+s[i:])
			}
		}
		each := strings.SplitAfter(s, "\n")
		for i := range each {
			for k := range each {
				each[i], each[k] = each[k], each[i]
				checkWords(t, strings.Join(each, ""))
				each[i], each[k] = each[k], each[i]
			}
		}
	}
}

// I2: all lines of a few pieces, as first ones and as others.
func TestPieces(t *testing.T) {
	pieces := []string{"terms ", " names ", "n", "t", "0", "1", ":", " ", "\n"}
	all := []string{""}
	for n, more := 0, []string{""}; n < 5; n++ {
		var next []string
		for _, s := range more {
			for _, p := range pieces {
				next = append(next, s+p)
			}
		}
		all = append(all, next...)
		more = next
	}
	for _, s := range all {
		checkWords(t, s)
		checkWords(t, s+"\n")
		checkWords(t, "terms 1 names 1\n"+s)
		checkWords(t, "terms 1 names 1\n"+s+"\n")
		checkWords(t, "terms 1 names 1\nn0:"+s+"\n")
	}
}
