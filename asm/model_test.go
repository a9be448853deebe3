package asm_test

import (
	"math/big"
	"math/rand"
	"regexp"
	"strings"
	"testing"

	"prelude/api"
	"prelude/asm"
	"prelude/lang"
)

// What words, names and numbers are, said once more.
var (
	wordForm   = regexp.MustCompile(`[^ \t\r]+`)
	nameForm   = regexp.MustCompile(`^[a-zA-Z][a-zA-Z0-9_]{0,30}$`)
	numberForm = regexp.MustCompile(`^(0|-?[1-9][0-9]*)$`)
)

// number is the number that a word is.
func number(s string) (int64, bool) {
	n, ok := new(big.Int).SetString(s, 10)
	if !numberForm.MatchString(s) || !ok || !n.IsInt64() {
		return 0, false
	}
	return n.Int64(), true
}

// model reads a text as 4.2 says, in another way than the program: by the forms of words, with columns counted ahead, and lists that are searched.
type model struct {
	lib   []api.Proc
	names []fault // where the procedures' names stand

	inside bool
	at     fault // where the procedure's word proc stands
	labels []string
	places []int64
	jumps  []fault // with the label that is named as their text
	froms  []int
}

// answer is what 4.2 asks for: a library, or a fault.
func (m *model) answer(text string) ([]api.Proc, *fault) {
	for i, line := range strings.Split(text, "\n") {
		line, _, _ = strings.Cut(line, "#")
		var words []string
		var cols []int
		for _, at := range wordForm.FindAllStringIndex(line, -1) {
			words = append(words, line[at[0]:at[1]])
			cols = append(cols, at[0]+1)
		}
		if len(words) == 0 {
			continue
		}
		last := len(words) - 1
		cols = append(cols, cols[last]+len(words[last]))
		f := m.first
		if m.inside {
			f = m.body
		}
		if bad := f(words, cols, i+1); bad != nil {
			return nil, bad
		}
	}
	if m.inside {
		return nil, &fault{line: m.at.line, col: m.at.col, e: api.ErrEnd}
	}
	if i, e := lang.Check(m.lib); e != api.OK {
		return nil, &fault{line: m.names[i].line, col: m.names[i].col, e: e}
	}
	return m.lib, nil
}

// first reads a first line; behind the words' columns stands the one behind the last word.
func (m *model) first(words []string, cols []int, line int) *fault {
	var numbers []int
	for i, must := range []string{"proc", "*", "args", "0", "reads", "0", "writes", "0", "locals", "0"} {
		if i == len(words) {
			return &fault{line: line, col: cols[i], e: api.ErrWord}
		}
		if must == "0" {
			n, ok := number(words[i])
			if !ok {
				return &fault{line: line, col: cols[i], e: api.ErrNumber}
			}
			numbers = append(numbers, int(n))
		} else if must != "*" && must != words[i] {
			return &fault{line: line, col: cols[i], e: api.ErrWord}
		}
	}
	if len(words) > 10 {
		return &fault{line: line, col: cols[10], e: api.ErrWord}
	}
	m.inside, m.at = true, fault{line: line, col: cols[0]}
	m.names = append(m.names, fault{line: line, col: cols[1]})
	m.labels, m.places, m.jumps, m.froms = nil, nil, nil, nil
	m.lib = append(m.lib, api.Proc{Name: words[1], Program: api.Program{Args: numbers[0], Reads: numbers[1], Writes: numbers[2], Locals: numbers[3]}})
	return nil
}

// find is the place of a label, -1 if there is none.
func (m *model) find(label string) int64 {
	for i, l := range m.labels {
		if l == label {
			return m.places[i]
		}
	}
	return -1
}

// body reads a line in a procedure.
func (m *model) body(words []string, cols []int, line int) *fault {
	p := &m.lib[len(m.lib)-1].Program
	bad := func(i int, e api.Errno) *fault { return &fault{line: line, col: cols[i], e: e} }
	w, takes := words[0], 1
	op, isOp := lang.Op(w)
	in := api.Instr{Op: op}
	switch {
	case w == "end":
	case strings.HasSuffix(w, ":"):
		name := w[:len(w)-1]
		if !nameForm.MatchString(name) {
			return bad(0, api.ErrWord)
		}
		if m.find(name) >= 0 {
			return bad(0, api.ErrTwice)
		}
		m.labels, m.places = append(m.labels, name), append(m.places, int64(len(p.Code)))
	case !isOp:
		return bad(0, api.ErrWord)
	case strings.Contains(" push load save arg get has put del jump zero ", " "+w+" "):
		takes = 2
		if len(words) == 1 {
			return bad(1, api.ErrWord)
		}
		n, ok := number(words[1])
		if w == "jump" || w == "zero" {
			if !nameForm.MatchString(words[1]) {
				return bad(1, api.ErrWord)
			}
			if m.find(words[1]) >= 0 {
				return bad(1, api.ErrJump)
			}
			m.jumps = append(m.jumps, fault{words[1], line, cols[1], api.ErrLabel})
			m.froms = append(m.froms, len(p.Code))
		} else if !ok {
			return bad(1, api.ErrNumber)
		}
		in.A = n
	}
	if len(words) > takes {
		return bad(takes, api.ErrWord)
	}
	if isOp {
		p.Code = append(p.Code, in)
	}
	if w != "end" {
		return nil
	}
	m.inside = false
	for i, j := range m.jumps {
		to := m.find(j.text)
		if to < 0 {
			return &j
		}
		p.Code[m.froms[i]].A = to
	}
	return nil
}

// spoiled is a text with something else in it, or something less.
func spoiled(r *rand.Rand, text string) string {
	words := strings.Fields("proc end args reads writes locals p q move a: b: go: end: 1a: a b go jump zero push stop add get put del pop 0 1 2 17 -1 007 9223372036854775808 x # \u00e9 a\xff")
	word := words[r.Intn(len(words))]
	lines := strings.Split(text, "\n")
	i, j := r.Intn(len(lines)), r.Intn(len(lines))
	at := r.Intn(len(text) + 1)
	switch r.Intn(9) {
	case 0:
		lines[i], lines[j] = lines[j], lines[i]
	case 1:
		lines = append(lines[:i:i], lines[i+1:]...)
	case 2:
		lines = append(lines[:i:i], append([]string{lines[j]}, lines[i:]...)...)
	case 3:
		return text[:at]
	case 4:
		return text[:at] + string(" \t\r\n#:ax1-"[r.Intn(10)]) + text[at:]
	case 5:
		return text[:at] + string(rune(r.Intn(1000))) + text[min(at+1, len(text)):]
	case 6:
		lines[i] += " " + word
	case 7:
		lines[i] = word + " " + lines[i]
	case 8:
		if f := strings.Fields(lines[i]); len(f) > 0 {
			f[r.Intn(len(f))] = word
			lines[i] = strings.Join(f, " ")
		}
	}
	return strings.Join(lines, "\n")
}

// 4.2: spoiled texts are answered as the model answers; and 4.3: what is read can be listed.
func TestAssembleAsModel(t *testing.T) {
	r := rand.New(rand.NewSource(4))
	seen := map[api.Errno]int{}
	for range 40000 {
		text := decorated(r, anyLibrary(r, 1+r.Intn(3), 1+r.Intn(4)))
		for range r.Intn(4) {
			text = spoiled(r, text)
		}
		want, bad := new(model).answer(text)
		if bad != nil {
			seen[bad.e]++
			refuses(t, text, bad.line, bad.col, bad.e)
			continue
		}
		seen[api.OK]++
		reads(t, text, want)
		if s, e := asm.List(want); e != api.OK {
			t.Errorf("List of what was read of %q is %q, %d", text, s, e)
		}
	}
	for _, e := range []api.Errno{
		api.OK, api.ErrWord, api.ErrNumber, api.ErrLabel, api.ErrTwice, api.ErrEnd,
		api.ErrJump, api.ErrStack, api.ErrArg, api.ErrProgram, api.ErrName,
	} {
		if seen[e] < 10 {
			t.Errorf("the error %d came up %d times only", e, seen[e])
		}
	}
}
