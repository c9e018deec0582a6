package drive

import (
	"pollarding/api"
	"pollarding/parse"
	"pollarding/recog"
	"pollarding/sets"
	"pollarding/short"
	"pollarding/step"
	"pollarding/table"
	"pollarding/text"
)

// put puts a line behind the text.
func (p *player) put(bytes string) string {
	p.text += bytes + lineEnd
	return told("ok", len(p.text))
}

func (p *player) fresh() string {
	p.text = ""
	return "ok"
}

// take lets the grammar be the one whose text the text is; if it is none's, the grammar stays.
func (p *player) take() string {
	g, fault := text.Parse(p.text)
	if fault.Code != api.OK {
		return told("bad", fault.At)
	}
	p.Grammar = g
	return told("ok", len(p.Rules))
}

// sets asks for no error, and short and show likewise: they tell only of grammars that may not be, and there is none such here.
func (p *player) sets() string {
	known, _ := sets.Of(p.Grammar)
	var numbers []int
	for n, null := range known.Null {
		numbers = append(numbers, count(null), count(known.First[n]...), count(known.Follow[n]...))
	}
	return inDigits(numbers...)
}

func (p *player) short() string {
	lengths, _ := short.Of(p.Grammar)
	return inDigits(lengths...)
}

func (p *player) table() string {
	t, e := table.Of(p.Grammar)
	if e != api.OK {
		return told("bad", int(e))
	}
	return inDigits(len(t.Cells), table.Clashes(t))
}

func (p *player) has(tokens []int) string {
	has, e := recog.Has(p.Grammar, tokens)
	switch {
	case e != api.OK:
		return told("bad", int(e))
	case has:
		return "yes"
	}
	return "no"
}

func (p *player) parse(tokens []int) string {
	derivation, at, e := parse.Parse(p.Grammar, tokens)
	switch {
	case e != api.OK:
		return told("bad", int(e))
	case at >= 0:
		return told("at", at)
	}
	return told("is", derivation...)
}

// step lets the grammar be what comes of it by a step; if the step gets an error, the grammar stays.
func (p *player) step(s api.Step) string {
	g, e := step.Do(p.Grammar, s)
	if e != api.OK {
		return told("bad", int(e))
	}
	p.Grammar = g
	return told("ok", len(p.Rules))
}

func (p *player) show() string {
	s, _ := text.Print(p.Grammar)
	return inDigits(len(s))
}

// count tells how many of truths are so.
func count(truths ...bool) int {
	n := 0
	for _, is := range truths {
		if is {
			n++
		}
	}
	return n
}
