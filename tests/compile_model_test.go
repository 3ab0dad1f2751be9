package tests

import (
	"fmt"
	"slices"
	"strings"

	"loop.example/s01541/impl"
)

// The second make of the compiler resolves the symbols of a tree, writes lines
// with names in place of all numbers, and numbers them by going through the
// lines at last: slots by counting what each line takes and leaves.

var (
	specialWords   = strings.Fields("quote if lambda let letrec set! begin and or define")
	primitiveNames = strings.Fields("+ - * quotient remainder = < cons car cdr null? pair? fixnum? symbol? procedure? vector? eq? not make-vector vector-ref vector-set! vector-length")
	primitiveArgs  = []int{2, 2, 2, 2, 2, 2, 2, 2, 1, 1, 1, 1, 1, 1, 1, 1, 2, 1, 2, 2, 3, 1}
)

// treesOf reads a source of any length that has no fault.
func treesOf(src string) []*tree {
	m := &model{src: src}
	var all []*tree
	for m.gap(); m.at < len(src); m.gap() {
		d := m.datum()
		if d == nil {
			panic(fmt.Sprintf("%.60q: code %d at %d", src, m.code, m.at))
		}
		all = append(all, d)
	}
	return all
}

func flatOf(trees []*tree) []impl.Datum {
	var data []impl.Datum
	for _, d := range trees {
		data = append(data, d.flat()...)
	}
	return data
}

func programOf(src string) []impl.Datum { return flatOf(treesOf(src)) }

type modelVariable struct {
	name  string
	boxed bool
}

// node is an expression whose symbols are resolved. variables are those that it
// binds, or the one that it uses.
type node struct {
	what      string // one of the special words, or const, use, global, setglobal, call, a primitive's name
	constant  *tree
	global    int
	variables []*modelVariable
	kids      []*node
	body      int // for let and letrec, the number of kids ahead of the body
}

type modelScope struct {
	variable *modelVariable
	around   *modelScope
}

type modelReader struct {
	globals map[string]int
	outside bool
	unbound map[string]bool
}

func (r *modelReader) find(name string, s *modelScope) (*modelVariable, int) {
	for ; s != nil; s = s.around {
		if s.variable.name == name {
			return s.variable, -1
		}
	}
	if n, ok := r.globals[name]; ok {
		return nil, n
	}
	return nil, -1
}

func isSymbol(d *tree) bool { return d.atom.Kind == impl.DatSymbol }
func isList(d *tree) bool   { return d.atom.Kind == impl.DatList }

func (r *modelReader) fail() *node {
	r.outside = true
	return &node{what: "begin"}
}

// use answers a node for a symbol, or for setting it.
func (r *modelReader) use(d *tree, s *modelScope, local, global string, kids ...*node) *node {
	name := d.text()
	v, n := r.find(name, s)
	switch {
	case v != nil:
		return &node{what: local, variables: []*modelVariable{v}, kids: kids}
	case n >= 0:
		return &node{what: global, global: n, kids: kids}
	}
	r.unbound[name] = true
	return &node{what: "begin"}
}

func (r *modelReader) all(trees []*tree, s *modelScope) []*node {
	var nodes []*node
	for _, d := range trees {
		nodes = append(nodes, r.node(d, s))
	}
	return nodes
}

func (r *modelReader) node(d *tree, s *modelScope) *node {
	if isSymbol(d) {
		return r.use(d, s, "use", "global")
	}
	if !isList(d) {
		return &node{what: "const", constant: d}
	}
	if len(d.kids) == 0 {
		return r.fail()
	}
	if head := d.kids[0]; isSymbol(head) {
		word := head.text()
		v, n := r.find(word, s)
		if v == nil && n < 0 {
			if slices.Contains(specialWords, word) {
				return r.special(word, d.kids[1:], s)
			}
			if p := slices.Index(primitiveNames, word); p >= 0 {
				if len(d.kids)-1 != primitiveArgs[p] {
					return r.fail()
				}
				return &node{what: word, kids: r.all(d.kids[1:], s)}
			}
		}
	}
	return &node{what: "call", kids: r.all(d.kids, s)}
}

func (r *modelReader) special(word string, parts []*tree, s *modelScope) *node {
	n := len(parts)
	switch {
	case word == "quote" && n == 1:
		return &node{what: "const", constant: parts[0]}
	case word == "if" && (n == 2 || n == 3), word == "begin" && n > 0, word == "and", word == "or":
		return &node{what: word, kids: r.all(parts, s)}
	case word == "set!" && n == 2 && isSymbol(parts[0]):
		value := r.node(parts[1], s)
		set := r.use(parts[0], s, "set!", "setglobal", value)
		if set.what == "set!" {
			set.variables[0].boxed = true
		}
		return set
	case word == "lambda" && n > 1 && isList(parts[0]):
		variables, inner, ok := r.fresh(parts[0].kids, s)
		if ok {
			return &node{what: word, variables: variables, kids: r.all(parts[1:], inner)}
		}
	case (word == "let" || word == "letrec") && n > 1 && isList(parts[0]):
		return r.letNode(word, parts, s)
	}
	return r.fail()
}

func (r *modelReader) letNode(word string, parts []*tree, s *modelScope) *node {
	var names, values []*tree
	for _, binding := range parts[0].kids {
		if len(binding.kids) != 2 {
			return r.fail()
		}
		names, values = append(names, binding.kids[0]), append(values, binding.kids[1])
	}
	variables, inner, ok := r.fresh(names, s)
	if !ok {
		return r.fail()
	}
	around := s
	if word == "letrec" {
		around = inner
		for _, v := range variables {
			v.boxed = true
		}
	}
	return &node{what: word, variables: variables, kids: append(r.all(values, around), r.all(parts[1:], inner)...), body: len(values)}
}

// fresh binds symbols, if they are distinct.
func (r *modelReader) fresh(names []*tree, s *modelScope) ([]*modelVariable, *modelScope, bool) {
	var variables []*modelVariable
	seen := map[string]bool{}
	for _, d := range names {
		if !isSymbol(d) || seen[d.text()] {
			return nil, nil, false
		}
		seen[d.text()] = true
		v := &modelVariable{name: d.text()}
		variables = append(variables, v)
		s = &modelScope{v, s}
	}
	return variables, s, true
}

// captured answers the variables that are used in a function and not bound in
// it, in the order in which the source has them.
func (n *node) captured() []*modelVariable {
	var bound, used []*modelVariable
	var walk func(n *node)
	walk = func(n *node) {
		if n.what == "use" || n.what == "set!" {
			used = append(used, n.variables[0])
		} else {
			bound = append(bound, n.variables...)
		}
		for _, kid := range n.kids {
			walk(kid)
		}
	}
	walk(n)
	var free []*modelVariable
	for _, v := range used {
		if !slices.Contains(bound, v) && !slices.Contains(free, v) {
			free = append(free, v)
		}
	}
	return free
}

// line is an instruction with names, or one of the marks below, which are none.
type line struct {
	op       int
	a        int
	constant *tree
	variable *modelVariable // of a use, and of markBind
	lambda   *node
	label    *int // of a jump, and of markLabel
}

const (
	markLabel = -1 - iota // jumps to this label lead here
	markBind              // the last slot is the variable's
	markUse               // raw x
	markCopy              // InsLocal of the last slot
)

type lineMaker struct{ lines []line }

func (c *lineMaker) put(lines ...line) { c.lines = append(c.lines, lines...) }

func (c *lineMaker) op(op, a int) { c.put(line{op: op, a: a}) }

func (c *lineMaker) row(nodes []*node) {
	for _, n := range nodes {
		c.value(n)
	}
}

// value writes the lines that leave a node's value.
func (c *lineMaker) value(n *node) {
	if slices.Contains([]string{"if", "let", "letrec", "begin", "and", "or"}, n.what) {
		c.block(n, false)
		return
	}
	switch n.what {
	case "const":
		c.put(line{op: impl.InsConst, constant: n.constant})
	case "use":
		c.put(line{op: markUse, variable: n.variables[0]})
		if n.variables[0].boxed {
			c.op(impl.InsUnbox, 0)
		}
	case "global":
		c.op(impl.InsGlobal, n.global)
	case "setglobal":
		c.row(n.kids)
		c.op(impl.InsSetGlobal, n.global)
		c.op(impl.InsVoid, 0)
	case "set!":
		c.put(line{op: markUse, variable: n.variables[0]})
		c.row(n.kids)
		c.op(impl.InsSetBox, 0)
		c.op(impl.InsVoid, 0)
	case "call":
		c.row(n.kids)
		c.op(impl.InsCall, len(n.kids)-1)
	case "lambda":
		for _, v := range n.captured() {
			c.put(line{op: markUse, variable: v})
		}
		c.put(line{op: impl.InsClosure, lambda: n})
	default:
		c.row(n.kids)
		c.op(impl.InsPrim, slices.Index(primitiveNames, n.what))
	}
}

// tail writes the lines that end the function with a node's value.
func (c *lineMaker) tail(n *node) {
	switch n.what {
	case "if", "let", "letrec", "begin", "and", "or":
		c.block(n, true)
	case "call":
		c.row(n.kids)
		c.op(impl.InsTail, len(n.kids)-1)
	default:
		c.value(n)
		c.op(impl.InsReturn, 0)
	}
}

func (c *lineMaker) either(n *node, tail bool) {
	if tail {
		c.tail(n)
	} else {
		c.value(n)
	}
}

func (c *lineMaker) seq(nodes []*node, tail bool) {
	for _, n := range nodes[:len(nodes)-1] {
		c.value(n)
		c.op(impl.InsPop, 0)
	}
	c.either(nodes[len(nodes)-1], tail)
}

var (
	modelTrue  = &node{what: "const", constant: &tree{atom: truth(1)}}
	modelFalse = &node{what: "const", constant: &tree{atom: truth(0)}}
)

// block writes a node that has parts in tail position if it is itself.
func (c *lineMaker) block(n *node, tail bool) {
	no, behind := new(int), new(int)
	last := len(n.kids) - 1
	switch {
	case n.what == "and" && last < 0:
		c.either(modelTrue, tail)
	case n.what == "or" && last < 0:
		c.either(modelFalse, tail)
	case n.what == "begin":
		c.seq(n.kids, tail)
	case n.what == "let", n.what == "letrec":
		c.binding(n, tail)
	case last == 0:
		c.either(n.kids[0], tail)
	case n.what == "or":
		for _, kid := range n.kids[:last] {
			next := new(int)
			c.value(kid)
			c.put(line{op: markCopy}, line{op: impl.InsJumpFalse, label: next})
			if tail {
				c.op(impl.InsReturn, 0)
			} else {
				c.put(line{op: impl.InsJump, label: behind})
			}
			c.put(line{op: markLabel, label: next}, line{op: impl.InsPop})
		}
		c.either(n.kids[last], tail)
		c.put(line{op: markLabel, label: behind})
	default:
		c.twoWays(n, tail, no, behind)
	}
}

func (c *lineMaker) twoWays(n *node, tail bool, no, behind *int) {
	conditions, yes := n.kids[:len(n.kids)-1], n.kids[len(n.kids)-1]
	if n.what == "if" {
		conditions, yes = n.kids[:1], n.kids[1]
	}
	for _, kid := range conditions {
		c.value(kid)
		c.put(line{op: impl.InsJumpFalse, label: no})
	}
	c.either(yes, tail)
	if !tail {
		c.put(line{op: impl.InsJump, label: behind})
	}
	c.put(line{op: markLabel, label: no})
	switch {
	case n.what == "and":
		c.either(modelFalse, tail)
	case len(n.kids) == 3:
		c.either(n.kids[2], tail)
	default:
		c.op(impl.InsVoid, 0)
		if tail {
			c.op(impl.InsReturn, 0)
		}
	}
	c.put(line{op: markLabel, label: behind})
}

func (c *lineMaker) binding(n *node, tail bool) {
	for i, v := range n.variables {
		if n.what == "letrec" {
			c.op(impl.InsBox, 1)
		} else {
			c.value(n.kids[i])
			if v.boxed {
				c.op(impl.InsBox, 0)
			}
		}
		// The values of a let that come yet do not know the name.
		c.put(line{op: markBind, variable: v})
	}
	if n.what == "letrec" {
		for i, v := range n.variables {
			c.put(line{op: markUse, variable: v})
			c.value(n.kids[i])
			c.op(impl.InsSetBox, 0)
		}
	}
	c.seq(n.kids[n.body:], tail)
	if !tail {
		c.op(impl.InsSlide, len(n.variables))
	}
}

// modelModuleMaker numbers functions and constants as their lines are come to.
type modelModuleMaker struct {
	m      impl.Module
	consts map[string]int
}

// function numbers the lines of a function and answers its number.
func (mm *modelModuleMaker) function(lambda *node, lines []line) int {
	number := len(mm.m.Funcs)
	mm.m.Funcs = append(mm.m.Funcs, impl.Func{})
	var params, free []*modelVariable
	if lambda != nil {
		params, free = lambda.variables, lambda.captured()
	}
	f := impl.Func{Params: len(params)}
	for _, v := range free {
		f.Free = append(f.Free, v.boxed)
	}
	slots := map[*modelVariable]int{}
	for i, v := range params {
		slots[v] = i
	}
	heights := map[*int]int{}
	height := len(params)
	for _, l := range lines {
		if l.op == markLabel {
			*l.label = len(f.Code)
			if h, ok := heights[l.label]; ok {
				height = h
			}
			continue
		}
		if l.op == markBind {
			slots[l.variable] = height - 1
			continue
		}
		i := mm.instruction(l, height, slots, free)
		f.Code = append(f.Code, i)
		height += modelGrowth(i)
		if l.label != nil {
			heights[l.label] = height
		}
	}
	mm.land(f.Code, lines)
	mm.m.Funcs[number] = f
	return number
}

func (mm *modelModuleMaker) instruction(l line, height int, slots map[*modelVariable]int, free []*modelVariable) impl.Ins {
	switch l.op {
	case impl.InsConst:
		text := l.constant.text()
		if _, ok := mm.consts[text]; !ok {
			mm.consts[text] = len(mm.consts)
			mm.m.Consts = append(mm.m.Consts, l.constant.flat())
		}
		return ins(impl.InsConst, mm.consts[text])
	case markCopy:
		return insLocal(height - 1)
	case markUse:
		if index := slices.Index(free, l.variable); index >= 0 {
			return ins(impl.InsFree, index)
		}
		return insLocal(slots[l.variable])
	case impl.InsClosure:
		return ins(impl.InsClosure, mm.function(l.lambda, linesOf(l.lambda)), len(l.lambda.captured()))
	}
	return ins(l.op, l.a)
}

// land sets the targets of jumps, all of whose labels are known by now.
func (mm *modelModuleMaker) land(code []impl.Ins, lines []line) {
	at := 0
	for _, l := range lines {
		if l.op == markLabel || l.op == markBind {
			continue
		}
		if l.label != nil {
			code[at].A = *l.label
		}
		at++
	}
}

// modelGrowth answers how many slots more there are behind an instruction.
func modelGrowth(i impl.Ins) int {
	switch i.Op {
	case impl.InsBox:
		return i.A
	case impl.InsClosure:
		return 1 - i.B
	case impl.InsCall, impl.InsSlide:
		return -i.A
	case impl.InsTail:
		return -1 - i.A
	case impl.InsPrim:
		return 1 - primitiveArgs[i.A]
	case impl.InsSetBox:
		return -2
	case impl.InsSetGlobal, impl.InsReturn, impl.InsJumpFalse, impl.InsPop:
		return -1
	case impl.InsUnbox, impl.InsJump:
		return 0
	}
	return 1
}

// linesOf answers the lines of a function.
func linesOf(lambda *node) []line {
	var c lineMaker
	for i, v := range lambda.variables {
		if v.boxed {
			c.op(impl.InsLocal, i)
			c.op(impl.InsBox, 0)
			c.put(line{op: markBind, variable: v})
		}
	}
	c.seq(lambda.kids, true)
	return c.lines
}

// modelDefined answers the name that a form defines, and whether it is a
// definition at all.
func modelDefined(d *tree) (string, bool) {
	if !isList(d) || len(d.kids) == 0 || !isSymbol(d.kids[0]) || d.kids[0].text() != "define" {
		return "", false
	}
	if len(d.kids) != 3 || !isSymbol(d.kids[1]) {
		return "", true
	}
	return d.kids[1].text(), true
}

// modelForm is a form whose symbols are resolved.
type modelForm struct {
	node    *node
	defines bool
	global  int // what it defines
}

// modelForms resolves a program of valid data. The forms are to be used if the
// reader has found nothing amiss.
func modelForms(trees []*tree) (modelReader, []modelForm) {
	r := modelReader{globals: map[string]int{}, unbound: map[string]bool{}}
	for _, d := range trees {
		name, ok := modelDefined(d)
		if _, known := r.globals[name]; ok && !known {
			r.globals[name] = len(r.globals)
		}
		r.outside = r.outside || ok && name == ""
	}
	var forms []modelForm
	for _, d := range trees {
		name, defines := modelDefined(d)
		if defines && name != "" {
			d = d.kids[2]
		}
		forms = append(forms, modelForm{node: r.node(d, nil), defines: defines, global: r.globals[name]})
	}
	return r, forms
}

// modelCompile answers what Compile and Unbound must answer for a program of
// valid data.
func modelCompile(trees []*tree) (impl.Module, int, []string) {
	r, forms := modelForms(trees)
	if r.outside || len(r.unbound) > 0 {
		return modelAnswer(r, nil)
	}
	var c lineMaker
	for i, f := range forms {
		switch {
		case f.defines:
			c.value(f.node)
			c.op(impl.InsSetGlobal, f.global)
		case i == len(forms)-1:
			c.tail(f.node)
		default:
			c.value(f.node)
			c.op(impl.InsPop, 0)
		}
	}
	if len(forms) == 0 || forms[len(forms)-1].defines {
		c.put(line{op: impl.InsVoid}, line{op: impl.InsReturn})
	}
	return modelAnswer(r, c.lines)
}

func modelAnswer(r modelReader, lines []line) (impl.Module, int, []string) {
	if r.outside {
		return impl.Module{}, impl.CodeSyntax, nil
	}
	if len(r.unbound) > 0 {
		var names []string
		for name := range r.unbound {
			names = append(names, name)
		}
		slices.Sort(names)
		return impl.Module{}, impl.CodeUnbound, names
	}
	mm := modelModuleMaker{m: impl.Module{Globals: len(r.globals)}, consts: map[string]int{}}
	mm.function(nil, lines)
	if !impl.ValidModule(mm.m) {
		return impl.Module{}, impl.CodeLimit, nil
	}
	if _, code, _ := modelVerify(mm.m); code != impl.CodeOK {
		return impl.Module{}, impl.CodeLimit, nil
	}
	return mm.m, impl.CodeOK, nil
}
