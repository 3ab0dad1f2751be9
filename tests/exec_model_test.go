package tests

import (
	"slices"
	"strconv"
	"strings"

	"loop.example/s01541/impl"
)

// A second way from a source to what it means: its expressions are evaluated as
// they stand, with values in variables; there is no module and no slot. Each
// expression counts the steps that the table of its code says.

type (
	symbolValue string
	otherValue  string // the empty list and void, as they are shown
	pairValue   struct{ first, second any }
	vectorValue struct{ elements []any }
	procedure   struct {
		lambda *node
		around *binding
	}
)

const (
	emptyValue = otherValue("()")
	voidValue  = otherValue("#void")
)

// place is where the value of a variable is kept; nil is none yet.
type place struct{ value any }

type binding struct {
	variable *modelVariable
	place    *place
	around   *binding
}

func (b *binding) find(v *modelVariable) *place {
	for b.variable != v {
		b = b.around
	}
	return b.place
}

// stop is the code with which an evaluation ends.
type stop int

// tailCall is what an expression in tail position answers in the place of a
// value: the call that its own caller makes in its place.
type tailCall struct {
	called *procedure
	args   []any
}

type evaluator struct {
	globals  []place
	consts   map[string]any
	captured map[*node]int
	fuel     int
	steps    int
	words    int // all that were ever asked for, as if none were let go
	frames   int
}

// meaning is what a source must come to if its module keeps the limits and
// there is heap enough, which is so with as many words as it has at the latest.
type meaning struct {
	report impl.Report
	words  int
	ran    bool
}

func meaningOf(src string, fuel int) meaning {
	trees, code, at := modelTrees(src)
	if code != impl.CodeOK {
		return meaning{report: impl.Report{Code: code, At: at}}
	}
	r, forms := modelForms(trees)
	if r.outside {
		return meaning{report: impl.Report{Code: impl.CodeSyntax}}
	}
	if len(r.unbound) > 0 {
		return meaning{report: impl.Report{Code: impl.CodeUnbound}}
	}
	x := &evaluator{globals: make([]place, len(r.globals)), consts: map[string]any{}, captured: map[*node]int{}, fuel: fuel, frames: 1}
	for _, f := range forms {
		x.prepare(f.node)
	}
	value, code := x.program(forms)
	report := impl.Report{Code: code, Steps: x.steps}
	if code == impl.CodeOK {
		report.Text = []byte(shownValue(value))
	}
	return meaning{report, x.words, true}
}

// prepare makes the constants, also those that are never come to, and counts
// what functions capture.
func (x *evaluator) prepare(n *node) {
	if n.what == "const" {
		x.constant(n.constant)
	}
	if n.what == "lambda" {
		x.captured[n] = len(n.captured())
	}
	for _, kid := range n.kids {
		x.prepare(kid)
	}
}

// constant answers one value for all constants of the same text.
func (x *evaluator) constant(d *tree) any {
	text := d.text()
	if _, ok := x.consts[text]; !ok {
		x.consts[text] = x.datum(d)
	}
	return x.consts[text]
}

func (x *evaluator) datum(d *tree) any {
	switch d.atom.Kind {
	case impl.DatInt:
		return d.atom.N
	case impl.DatBool:
		return d.atom.N == 1
	case impl.DatSymbol:
		return symbolValue(d.text())
	}
	var row any = emptyValue
	for _, kid := range slices.Backward(d.kids) {
		x.words += 3
		row = &pairValue{x.datum(kid), row}
	}
	return row
}

// step is taken ahead of what an instruction does.
func (x *evaluator) step() {
	if x.steps == x.fuel {
		panic(stop(impl.CodeFuel))
	}
	x.steps++
}

func (x *evaluator) program(forms []modelForm) (last any, code int) {
	defer func() {
		switch caught := recover().(type) {
		case nil:
		case stop:
			code = int(caught)
		default:
			panic(caught)
		}
	}()
	ended := false
	for i, f := range forms {
		ended = i == len(forms)-1 && !f.defines
		value := x.eval(f.node, nil, ended)
		if ended {
			return x.final(value), impl.CodeOK
		}
		x.step() // the value is set, or dropped
		if f.defines {
			x.globals[f.global].value = value
		}
	}
	x.step()
	x.step()
	return voidValue, impl.CodeOK
}

// eval answers the value of an expression. In tail position it takes the step
// back to the caller as well.
func (x *evaluator) eval(n *node, b *binding, tail bool) any {
	switch n.what {
	case "if":
		return x.either(n, b, tail)
	case "let":
		return x.let(n, b, tail)
	case "letrec":
		return x.letrec(n, b, tail)
	case "begin":
		return x.row(n.kids, b, tail)
	case "and", "or":
		return x.logic(n, b, tail)
	case "call":
		return x.call(n, b, tail)
	}
	return x.back(x.plain(n, b), tail)
}

func (x *evaluator) back(value any, tail bool) any {
	if tail {
		x.step()
	}
	return value
}

func (x *evaluator) values(nodes []*node, b *binding) []any {
	var values []any
	for _, n := range nodes {
		values = append(values, x.eval(n, b, false))
	}
	return values
}

func (x *evaluator) plain(n *node, b *binding) any {
	switch n.what {
	case "const":
		x.step()
		return x.constant(n.constant)
	case "use":
		x.step()
		from := b.find(n.variables[0])
		if n.variables[0].boxed {
			x.step()
		}
		return from.held()
	case "global":
		x.step()
		return x.globals[n.global].held()
	case "set!":
		x.step()
		return x.set(b.find(n.variables[0]), n, b)
	case "setglobal":
		return x.set(&x.globals[n.global], n, b)
	case "lambda":
		for range x.captured[n] {
			x.step()
		}
		x.step()
		x.words += 2 + x.captured[n]
		return &procedure{n, b}
	}
	args := x.values(n.kids, b)
	x.step()
	return x.primitive(n.what, args)
}

func (p *place) held() any {
	if p.value == nil {
		panic(stop(impl.CodeUnset))
	}
	return p.value
}

func (x *evaluator) set(to *place, n *node, b *binding) any {
	value := x.eval(n.kids[0], b, false)
	x.step()
	to.value = value
	x.step()
	return voidValue
}

// row evaluates one behind the other; the last one is the value.
func (x *evaluator) row(nodes []*node, b *binding, tail bool) any {
	last := len(nodes) - 1
	for _, n := range nodes[:last] {
		x.eval(n, b, false)
		x.step()
	}
	return x.eval(nodes[last], b, tail)
}

func (x *evaluator) either(n *node, b *binding, tail bool) any {
	holds := x.eval(n.kids[0], b, false) != false
	x.step()
	switch {
	case holds:
		value := x.eval(n.kids[1], b, tail)
		return x.back(value, !tail) // the jump behind the other part
	case len(n.kids) == 2:
		x.step()
		return x.back(voidValue, tail)
	}
	return x.eval(n.kids[2], b, tail)
}

// bind puts a value into a new place; a boxed one is an object.
func (x *evaluator) bind(v *modelVariable, value any, around *binding) *binding {
	if v.boxed {
		x.step()
		x.words += 2
	}
	return &binding{v, &place{value}, around}
}

func (x *evaluator) let(n *node, b *binding, tail bool) any {
	inner := b
	for i, v := range n.variables {
		inner = x.bind(v, x.eval(n.kids[i], b, false), inner)
	}
	return x.back(x.row(n.kids[n.body:], inner, tail), !tail)
}

func (x *evaluator) letrec(n *node, b *binding, tail bool) any {
	for _, v := range n.variables {
		b = x.bind(v, nil, b)
	}
	for i, v := range n.variables {
		x.step()
		value := x.eval(n.kids[i], b, false)
		x.step()
		b.find(v).value = value
	}
	return x.back(x.row(n.kids[n.body:], b, tail), !tail)
}

// logic goes from the left until the value is known: for and the first that is
// #f, for or the first that is not.
func (x *evaluator) logic(n *node, b *binding, tail bool) any {
	last := len(n.kids) - 1
	if last < 0 {
		x.step()
		return x.back(n.what == "and", tail)
	}
	for _, kid := range n.kids[:last] {
		value := x.eval(kid, b, false)
		x.step()
		if n.what == "or" {
			x.step()
		}
		if (value != false) == (n.what == "or") {
			x.step() // to the end with it, or the constant #f
			return x.back(value, tail && n.what == "and")
		}
		if n.what == "or" {
			x.step()
		}
	}
	value := x.eval(n.kids[last], b, tail)
	return x.back(value, last > 0 && n.what == "and" && !tail)
}

func (x *evaluator) call(n *node, b *binding, tail bool) any {
	values := x.values(n.kids, b)
	x.step()
	called, ok := values[0].(*procedure)
	switch {
	case !ok:
		panic(stop(impl.CodeType))
	case len(called.lambda.variables) != len(values)-1:
		panic(stop(impl.CodeArity))
	case tail:
		return tailCall{called, values[1:]}
	case x.frames == impl.MaxDepth:
		panic(stop(impl.CodeLimit))
	}
	x.frames++
	value := x.final(tailCall{called, values[1:]})
	x.frames--
	return value
}

// final makes calls until there is a value.
func (x *evaluator) final(value any) any {
	for {
		next, ok := value.(tailCall)
		if !ok {
			return value
		}
		value = x.enter(next.called, next.args)
	}
}

func (x *evaluator) enter(called *procedure, args []any) any {
	b := called.around
	for i, v := range called.lambda.variables {
		if v.boxed {
			x.step()
		}
		b = x.bind(v, args[i], b)
	}
	return x.row(called.lambda.kids, b, true)
}

// valueKind answers the kind of a value, in the letters of kindMakers.
func valueKind(value any) byte {
	switch v := value.(type) {
	case int:
		return 'i'
	case bool:
		return 'b'
	case symbolValue:
		return 's'
	case *pairValue:
		return 'p'
	case *vectorValue:
		return 'v'
	case *procedure:
		return 'f'
	default:
		return map[any]byte{emptyValue: 'n', voidValue: 'o'}[v]
	}
}

func (x *evaluator) primitive(name string, args []any) any {
	asked, _ := modelSign(slices.Index(primitiveNames, name))
	for i, a := range args {
		if asked[i] != 'a' && asked[i] != valueKind(a) {
			panic(stop(impl.CodeType))
		}
	}
	switch name {
	case "cons":
		x.words += 3
		return &pairValue{args[0], args[1]}
	case "car":
		return args[0].(*pairValue).first
	case "cdr":
		return args[0].(*pairValue).second
	case "=":
		return args[0] == args[1]
	case "<":
		return args[0].(int) < args[1].(int)
	case "eq?":
		return args[0] == args[1]
	case "not":
		return args[0] == false
	case "make-vector", "vector-ref", "vector-set!", "vector-length":
		return x.vector(name, args)
	case "+", "-", "*", "quotient", "remainder":
		n, code := modelArithmetic(name, args[0].(int), args[1].(int))
		if code != goesOn {
			panic(stop(code))
		}
		return n
	}
	kinds := map[string]byte{"null?": 'n', "pair?": 'p', "fixnum?": 'i', "symbol?": 's', "procedure?": 'f', "vector?": 'v'}
	return valueKind(args[0]) == kinds[name]
}

func (x *evaluator) vector(name string, args []any) any {
	if name == "make-vector" {
		size := args[0].(int)
		if size < 0 || size > 1000 {
			panic(stop(impl.CodeIndex))
		}
		x.words += 1 + size
		return &vectorValue{slices.Repeat(args[1:], size)}
	}
	elements := args[0].(*vectorValue).elements
	if name == "vector-length" {
		return len(elements)
	}
	at := args[1].(int)
	if at < 0 || at >= len(elements) {
		panic(stop(impl.CodeIndex))
	}
	if name == "vector-ref" {
		return elements[at]
	}
	elements[at] = args[2]
	return voidValue
}

// shownValue cuts also within, as a vector may have itself in it.
func shownValue(value any) string {
	var out strings.Builder
	var show func(value any)
	show = func(value any) {
		if out.Len() > 1000 {
			return
		}
		switch v := value.(type) {
		case int:
			out.WriteString(strconv.Itoa(v))
		case bool:
			out.WriteString(map[bool]string{false: "#f", true: "#t"}[v])
		case symbolValue:
			out.WriteString(string(v))
		case otherValue:
			out.WriteString(string(v))
		case *procedure:
			out.WriteString("#proc")
		case *vectorValue:
			between := "#("
			for _, e := range v.elements {
				out.WriteString(between)
				show(e)
				between = " "
			}
			out.WriteString(strings.Repeat("#(", 1-min(len(v.elements), 1)) + ")")
		case *pairValue:
			out.WriteString("(")
			show(v.first)
			rest := v.second
			for p, ok := rest.(*pairValue); ok; p, ok = rest.(*pairValue) {
				out.WriteString(" ")
				show(p.first)
				rest = p.second
			}
			if rest != emptyValue {
				out.WriteString(" . ")
				show(rest)
			}
			out.WriteString(")")
		}
	}
	show(value)
	return out.String()[:min(out.Len(), 1000)]
}
