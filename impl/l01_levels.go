package impl

import (
	"errors"
	"slices"
	"strconv"
	"strings"
)

const MaxParams = 5
const MaxLevel = 24
const MaxNum = 1000
const (
	OpZero  = 0
	OpSucc  = 1
	OpMax   = 2
	OpImax  = 3
	OpParam = 4
)

type Tok struct {
	Op int
	N  int
}

type Level struct {
	Toks []Tok
}

var errLevel = errors.New("not a valid level")

// A machine both checks and evaluates a level, so that the two cannot
// disagree: whatever makes the level invalid is a panic with errLevel.
type machine struct {
	env   [MaxParams]int
	stack []int
}

func (m *machine) push(v int) {
	m.stack = append(m.stack, v)
}

func (m *machine) pop() int {
	last := len(m.stack) - 1
	if last < 0 {
		panic(errLevel)
	}
	v := m.stack[last]
	m.stack = m.stack[:last]
	return v
}

func needZero(n int) {
	if n != 0 {
		panic(errLevel)
	}
}

func (m *machine) zero(n int) {
	needZero(n)
	m.push(0)
}

func (m *machine) succ(n int) {
	needZero(n)
	m.push(m.pop() + 1)
}

func (m *machine) max(n int) {
	needZero(n)
	b := m.pop()
	a := m.pop()
	m.push(max(a, b))
}

func (m *machine) imax(n int) {
	needZero(n)
	b := m.pop()
	a := m.pop()
	if b == 0 {
		m.push(0)
	} else {
		m.push(max(a, b))
	}
}

func (m *machine) param(n int) {
	if n < 0 || n >= MaxParams {
		panic(errLevel)
	}
	m.push(m.env[n])
}

func (m *machine) act(l []Tok) {
	actions := [...]func(n int){
		OpZero:  m.zero,
		OpSucc:  m.succ,
		OpMax:   m.max,
		OpImax:  m.imax,
		OpParam: m.param,
	}
	for _, t := range l {
		if t.Op < 0 || t.Op >= len(actions) {
			panic(errLevel)
		}
		actions[t.Op](t.N)
	}
}

func (m *machine) run(l []Tok) int {
	if len(l) == 0 || len(l) > MaxLevel {
		panic(errLevel)
	}
	m.act(l)
	v := m.pop()
	if len(m.stack) > 0 {
		panic(errLevel)
	}
	return v
}

func envOk(env []int) bool {
	if len(env) != MaxParams {
		return false
	}
	for _, v := range env {
		if v < 0 || v > MaxNum {
			return false
		}
	}
	return true
}

// Validity does not depend on the values of the parameters, so any env shows it.
func LevelOk(l []Tok) bool {
	_, ok := LevelEval(l, make([]int, MaxParams))
	return ok
}

func LevelEval(l []Tok, env []int) (value int, ok bool) {
	defer func() {
		if recover() != nil {
			value, ok = 0, false
		}
	}()
	if !envOk(env) {
		return 0, false
	}
	m := machine{}
	copy(m.env[:], env)
	return m.run(l), true
}

func LevelParams(l []Tok) []int {
	if !LevelOk(l) {
		return nil
	}
	var out []int
	for p := range MaxParams {
		if slices.Contains(l, Tok{Op: OpParam, N: p}) {
			out = append(out, p)
		}
	}
	return out
}

func LevelOff(l []Tok) int {
	if !LevelOk(l) {
		return -1
	}
	count := 0
	for _, t := range l {
		if t.Op == OpSucc {
			count++
		}
	}
	return count
}

// The room for n is checked before anything is built: n may be too large to
// allocate, and a sum with it may overflow.
func LevelSucc(l []Tok, n int) ([]Tok, bool) {
	if !LevelOk(l) || n < 0 || n > MaxLevel-len(l) {
		return nil, false
	}
	return slices.Concat(l, slices.Repeat([]Tok{{Op: OpSucc}}, n)), true
}

func LevelJoin(op int, a []Tok, b []Tok) ([]Tok, bool) {
	if op != OpMax && op != OpImax {
		return nil, false
	}
	if !LevelOk(a) || !LevelOk(b) {
		return nil, false
	}
	return checkedLevel(slices.Concat(a, b, []Tok{{Op: op}}))
}

func LevelSubst(l []Tok, with []Level) ([]Tok, bool) {
	if !LevelOk(l) || !levelsOk(with) {
		return nil, false
	}
	var out []Tok
	for _, t := range l {
		if t.Op != OpParam {
			out = append(out, t)
		} else if t.N < len(with) {
			out = append(out, with[t.N].Toks...)
		} else {
			return nil, false
		}
	}
	return checkedLevel(out)
}

func levelsOk(list []Level) bool {
	for _, x := range list {
		if !LevelOk(x.Toks) {
			return false
		}
	}
	return true
}

func checkedLevel(l []Tok) ([]Tok, bool) {
	if !LevelOk(l) {
		return nil, false
	}
	return l, true
}

func LevelText(l []Tok) string {
	if !LevelOk(l) {
		return ""
	}
	var words []string
	for _, t := range l {
		words = append(words, tokText(t))
	}
	return strings.Join(words, " ")
}

func tokText(t Tok) string {
	switch t.Op {
	case OpZero:
		return "0"
	case OpSucc:
		return "s"
	case OpMax:
		return "max"
	case OpImax:
		return "imax"
	}
	return "u" + strconv.Itoa(t.N)
}

// A text of more than MaxLevel words is not split any further, however long it is.
func LevelRead(s string) ([]Tok, bool) {
	words := strings.SplitN(s, " ", MaxLevel+1)
	var out []Tok
	for _, w := range words {
		t, ok := tokRead(w)
		if !ok {
			return nil, false
		}
		out = append(out, t)
	}
	return checkedLevel(out)
}

// A word is compared with the texts of all tokens, so that no other spelling
// of a number (u00, u01, u+1) is read.
func tokRead(word string) (Tok, bool) {
	for op := OpZero; op < OpParam; op++ {
		t := Tok{Op: op}
		if word == tokText(t) {
			return t, true
		}
	}
	for p := range MaxParams {
		t := Tok{Op: OpParam, N: p}
		if word == tokText(t) {
			return t, true
		}
	}
	return Tok{}, false
}
