package tests

import (
	"fmt"
	"math/rand"
	"slices"
	"strings"

	"loop.example/s01541/impl"
)

// sourceMaker writes programs whose runs go on for a while: an expression is
// written for the kind of value that is asked for there, and now and then for
// another one.
type sourceMaker struct {
	r     *rand.Rand
	scope []madeName
	odd   int // of 1000 expressions, so many go wrong
}

// madeName is a name with the kind of what it holds: i a number, b a bool, l a
// list of numbers, v a vector with a number first, f and g procedures of one
// and two numbers to a number, t of none, and r one of a small number, which
// may call itself.
type madeName struct {
	name string
	kind byte
}

const (
	madeKinds  = "iiiibllvffgtr"
	procedures = "fgt"
)

var plainProcedures = map[byte][]string{
	'f': {"(lambda (x) x)", "(lambda (x) (+ x 1))", "(lambda (p) (set! p (- 0 p)) p)"},
	'g': {"(lambda (x y) (- x y))", "(lambda (p q) (+ p q))", "(lambda (y x) (set! x (+ x y)) x)"},
	't': {"(lambda () 5)", "(lambda () (+ 1 1))"},
	'r': {"(lambda (z) z)", "(lambda (z) (+ z z))"},
}

func (p *sourceMaker) chance(percent int) bool { return p.r.Intn(100) < percent }

func (p *sourceMaker) pick(words ...string) string { return words[p.r.Intn(len(words))] }

func (p *sourceMaker) kind() byte { return madeKinds[p.r.Intn(len(madeKinds))] }

// means answers the kind of what a name holds here, and 0 if it is not bound.
func (p *sourceMaker) means(name string) byte {
	for _, n := range slices.Backward(p.scope) {
		if n.name == name {
			return n.kind
		}
	}
	return 0
}

// unbound tells whether none of the words is bound here.
func (p *sourceMaker) unbound(words ...string) bool {
	return !slices.ContainsFunc(words, func(word string) bool { return p.means(word) != 0 })
}

// held answers a name that holds such a value, or an empty text.
func (p *sourceMaker) held(kind byte) string {
	var names []string
	for _, n := range p.scope {
		if n.kind == kind && p.means(n.name) == kind {
			names = append(names, n.name)
		}
	}
	if len(names) == 0 {
		return ""
	}
	return p.pick(names...)
}

// form writes a list; if its word is bound here to something else, a plain
// value stands in its place.
func (p *sourceMaker) form(kind byte, word string, parts ...string) string {
	if !p.unbound(word) {
		return p.plain(kind)
	}
	return listOf(append([]string{word}, parts...)...)
}

func listOf(parts ...string) string { return "(" + strings.Join(parts, " ") + ")" }

// plain writes a name or a constant, as far as there is one of this kind.
func (p *sourceMaker) plain(kind byte) string {
	if name := p.held(kind); name != "" && p.chance(80) {
		return name
	}
	switch kind {
	case 'b':
		return p.pick("#t", "#f")
	case 'l':
		if p.unbound("quote") {
			return "'" + p.pick("()", "(1)", "(2 3 5)", "(7 0 -1 4)")
		}
	case 'v':
		if p.unbound("make-vector") {
			return listOf("make-vector", p.pick("1", "2", "4"), p.pick("0", "1", "9"))
		}
	case 'f', 'g', 't', 'r':
		if p.unbound("lambda", "+", "-", "set!") {
			return p.pick(plainProcedures[kind]...)
		}
	}
	return p.pick("0", "1", "2", "3", "-1", "10", "100")
}

// expression writes one that has a value of this kind.
func (p *sourceMaker) expression(kind byte, deep int) string {
	if p.r.Intn(1000) < p.odd {
		return p.wrong(kind, deep)
	}
	if deep <= 0 {
		return p.plain(kind)
	}
	if p.chance(40) {
		return p.anyKind(kind, deep-1)
	}
	switch kind {
	case 'i':
		return p.number(deep - 1)
	case 'b':
		return p.truth(deep - 1)
	case 'l':
		if p.chance(20) {
			l := p.plain('l')
			return p.form(kind, "if", p.form('b', "pair?", l), p.form('l', "cdr", l), l)
		}
		return p.form(kind, "cons", p.expression('i', deep-1), p.expression('l', deep-1))
	case 'v':
		return p.form(kind, "make-vector", p.pick("1", "2", "3", "5"), p.expression('i', deep-1))
	}
	return p.procedure(kind, deep-1)
}

func (p *sourceMaker) number(deep int) string {
	value := func() string { return p.expression('i', deep) }
	switch p.r.Intn(13) {
	case 0, 1, 2:
		return p.form('i', p.pick("+", "-", "*"), value(), value())
	case 3:
		return p.form('i', p.pick("quotient", "remainder"), value(), p.pick("2", "3", "-7", "10"))
	case 4:
		l := p.expression('l', 0)
		return p.form('i', "if", p.form('b', "pair?", l), p.form('i', "car", l), value())
	case 5:
		return p.form('i', "vector-ref", p.expression('v', deep), "0")
	case 6:
		return p.form('i', "vector-length", p.expression('v', deep))
	case 7:
		return listOf(p.expression('r', deep-1), p.small())
	case 8:
		return p.loop(deep)
	case 9:
		return p.form('i', "let", "(("+p.pick("n", "m")+" "+value()+"))", p.plain('i'))
	}
	return p.call(p.expression, procedures[p.r.Intn(3)], deep)
}

// small writes a number that can be counted down from in a moment.
func (p *sourceMaker) small() string {
	if !p.unbound("remainder") || p.chance(30) {
		return p.pick("0", "1", "3", "6")
	}
	return listOf("remainder", p.expression('i', 1), p.pick("3", "5", "8"))
}

// call writes a call of what is written for a kind of procedure.
func (p *sourceMaker) call(write func(kind byte, deep int) string, kind byte, deep int) string {
	parts := []string{write(kind, deep)}
	for range map[byte]int{'f': 1, 'g': 2}[kind] {
		parts = append(parts, p.expression('i', deep))
	}
	return listOf(parts...)
}

// loop writes a procedure that counts down, and its call.
func (p *sourceMaker) loop(deep int) string {
	name, n, acc := p.pick("loop", "go", "a"), p.pick("n", "i", "b"), p.pick("acc", "s", "c")
	around := p.scope
	p.scope = append(slices.Clone(around), madeName{n, 'i'}, madeName{acc, 'i'})
	again := listOf(name, "(- "+n+" 1)", p.expression('i', deep-1))
	if p.chance(30) {
		again = listOf("+", p.expression('i', deep-1), again)
	}
	before := p.several(1, func() string { return p.statement(deep - 1) })
	p.scope = around
	body := listOf(append(append([]string{"begin"}, before...), "(if (< "+n+" 1) "+acc+" "+again+")")...)
	if !p.unbound("letrec", "lambda", "begin", "if", "<", "-", "+") {
		return p.plain('i')
	}
	return "(letrec ((" + name + " (lambda (" + n + " " + acc + ") " + body + "))) (" + name + " " + p.small() + " " + p.expression('i', deep) + "))"
}

func (p *sourceMaker) truth(deep int) string {
	value := func() string { return p.expression(p.kind(), deep) }
	switch p.r.Intn(6) {
	case 0, 1:
		return p.form('b', p.pick("=", "<"), p.expression('i', deep), p.expression('i', deep))
	case 2:
		return p.form('b', p.pick("null?", "pair?", "fixnum?", "symbol?", "procedure?", "vector?", "not"), value())
	case 3:
		kind := p.kind()
		return p.form('b', "eq?", p.expression(kind, deep), p.plain(kind))
	case 4:
		return p.form('b', "and", p.several(3, func() string { return p.expression('b', deep) })...)
	}
	return p.form('b', "or", p.several(3, func() string { return p.expression('b', deep) })...)
}

func (p *sourceMaker) several(most int, part func() string) []string {
	var parts []string
	for range p.r.Intn(most + 1) {
		parts = append(parts, part())
	}
	return parts
}

// procedure writes a lambda; its parameters may hide any word.
func (p *sourceMaker) procedure(kind byte, deep int) string {
	if !p.unbound("lambda") {
		return p.plain(kind)
	}
	count := map[byte]int{'f': 1, 'g': 2, 'r': 1}[kind]
	var bound []madeName
	for len(bound) < count {
		if name := p.fresh(); len(bound) == 0 || bound[0].name != name {
			bound = append(bound, madeName{name, 'i'})
		}
	}
	return "(lambda " + listOf(namesIn(bound)...) + " " + p.within(bound, 'i', deep) + ")"
}

func namesIn(bound []madeName) []string {
	var names []string
	for _, n := range bound {
		names = append(names, n.name)
	}
	return names
}

func (p *sourceMaker) fresh() string {
	if p.chance(3) {
		return p.pick("if", "car", "+", "quote", "let", "list", "define", "and", "eq?", "lambda", "set!")
	}
	return p.pick("a", "b", "c", "d", "e", "x", "y", "n")
}

// within writes a body in the scope of some names more.
func (p *sourceMaker) within(bound []madeName, kind byte, deep int) string {
	around := p.scope
	p.scope = append(slices.Clone(around), bound...)
	parts := p.several(2, func() string { return p.statement(deep) })
	parts = append(parts, p.expression(kind, deep))
	p.scope = around
	return strings.Join(parts, " ")
}

// statement writes an expression whose value is of no use.
func (p *sourceMaker) statement(deep int) string {
	kind := p.kind()
	if name := p.held(kind); name != "" && p.chance(60) {
		return p.form(kind, "set!", name, p.expression(kind, max(deep-1, 1)))
	}
	if v := p.held('v'); v != "" && p.chance(40) {
		return p.form('i', "vector-set!", v, "0", p.expression('i', max(deep-1, 1)))
	}
	if p.chance(40) && deep > 0 {
		return p.form(kind, "if", p.expression('b', deep-1), p.statement(deep-1))
	}
	return p.expression(kind, deep-1)
}

// anyKind writes one of the forms that can have a value of any kind.
func (p *sourceMaker) anyKind(kind byte, deep int) string {
	value := func() string { return p.expression(kind, deep) }
	switch p.r.Intn(9) {
	case 0:
		return p.form(kind, "if", p.expression('b', deep), value(), value())
	case 1, 2:
		return p.binding("let", kind, deep)
	case 3:
		return p.binding("letrec", kind, deep)
	case 4:
		return p.form(kind, "begin", append(p.several(2, func() string { return p.statement(deep) }), value())...)
	case 5:
		return p.form(kind, "or", p.form(kind, "and", p.expression('b', deep), value()), value())
	case 6:
		if p.chance(50) {
			return p.form(kind, "car", p.form('l', "cons", value(), p.plain(p.kind())))
		}
		return p.form(kind, "cdr", p.form('l', "cons", p.plain(p.kind()), value()))
	case 7:
		return p.form(kind, "vector-ref", p.form('v', "make-vector", p.pick("1", "2"), value()), "0")
	}
	if !p.unbound("lambda") {
		return p.plain(kind)
	}
	given := p.kind()
	bound := []madeName{{p.fresh(), given}}
	return "((lambda (" + bound[0].name + ") " + p.within(bound, kind, deep) + ") " + p.expression(given, deep) + ")"
}

func (p *sourceMaker) binding(word string, kind byte, deep int) string {
	var bound []madeName
	for range p.r.Intn(4) {
		name := p.fresh()
		if !slices.Contains(namesIn(bound), name) {
			bound = append(bound, madeName{name, p.kind()})
		}
	}
	around := p.scope
	if word == "letrec" {
		// Procedures alone know each other ahead of their values.
		for i := range bound {
			bound[i].kind = procedures[p.r.Intn(3)]
		}
		p.scope = append(slices.Clone(around), bound...)
	}
	var parts []string
	for _, n := range bound {
		write := p.expression
		if word == "letrec" {
			write = p.procedure
		}
		parts = append(parts, listOf(n.name, write(n.kind, deep)))
	}
	p.scope = around
	return p.form(kind, word, listOf(parts...), p.within(bound, kind, deep))
}

// wrong writes what ends the run, or may do so.
func (p *sourceMaker) wrong(kind byte, deep int) string {
	switch p.r.Intn(10) {
	case 0:
		return p.form(kind, "quotient", p.plain('i'), "0")
	case 1:
		return p.form(kind, "vector-ref", p.plain('v'), p.pick("-1", "1", "5"))
	case 2:
		return listOf(p.plain('f'), p.plain('i'), p.plain('i'))
	case 3:
		return p.form(kind, "*", greatest, p.expression('i', deep-1))
	case 4:
		return p.form(kind, "make-vector", p.pick("1001", "-1", "1000"), p.plain(p.kind()))
	case 5:
		return p.form(kind, "letrec", "((u w) (w 1))", "u")
	case 6:
		return "late"
	case 7:
		if p.unbound("lambda", "+", "cons", "begin", "make-vector") {
			again := p.pick("(f)", "(+ 1 (f))", "(cons 1 (f))", "(begin (make-vector 100 0) (f))")
			return p.form(kind, "letrec", "((f (lambda () "+again+")))", "(f)")
		}
	}
	return p.expression(p.kind(), deep-1)
}

// counting writes a procedure that may call itself, by its global name, with a
// smaller number.
func (p *sourceMaker) counting(name string, deep int) string {
	around := p.scope
	p.scope = append(slices.Clone(around), madeName{"z", 'i'})
	again := "(" + name + " (- z 1))"
	if p.chance(70) {
		again = listOf(p.pick("+", "-"), p.expression('i', deep), again)
	}
	body := "(if (< z 1) " + p.expression('i', deep) + " " + again + ")"
	p.scope = around
	return "(lambda (z) " + body + ")"
}

// program writes definitions, statements between them, and a last form that
// shows several values.
func (p *sourceMaker) program() string {
	p.scope = nil
	var forms []string
	for n := range 1 + p.r.Intn(7) {
		name, kind, deep := fmt.Sprintf("g%d", n), p.kind(), 1+p.r.Intn(4)
		value := p.expression(kind, deep)
		if kind == 'r' {
			value = p.counting(name, deep)
		}
		forms = append(forms, listOf("define", name, value))
		p.scope = append(p.scope, madeName{name, kind})
		forms = append(forms, p.several(2, func() string { return p.statement(2) })...)
	}
	last := "'end"
	for range 1 + p.r.Intn(5) {
		// Procedures would not be seen.
		kind := "iiiiblv"[p.r.Intn(7)]
		last = listOf("cons", p.expression(kind, 2+p.r.Intn(4)), last)
	}
	return strings.Join(append(forms, "(define late 1)", last), "\n")
}

// source answers a program of a length that can be read.
func (p *sourceMaker) source() string {
	for {
		if src := p.program(); len(src) <= impl.MaxSource {
			return src
		}
	}
}
