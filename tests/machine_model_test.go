package tests

import (
	"math/big"
	"slices"

	"loop.example/s01541/impl"
)

// A second make of the machine, of the things and leaves of that of the heap.
// An instruction is a rule from what it takes to what it leaves: what it takes
// stays where it lies until the rule has answered.

// goesOn is what a step answers that does not end the run.
const goesOn = -1

type modelFrame struct {
	back    *modelFrame
	deep    int
	fn      int
	closure leaf
	slots   []leaf
	at      int
}

type modelMachine struct {
	m       impl.Module
	heap    int
	used    int
	names   [][]byte
	consts  []leaf
	globals []leaf
	last    *modelFrame
	out     impl.Outcome
}

// modelOutcome is Run for a safe module and arguments within the bounds.
func modelOutcome(m impl.Module, heap, fuel int, forced []int) impl.Outcome {
	x := modelMachine{m: m, heap: heap}
	for _, data := range m.Consts {
		l, _ := x.datum(data)
		x.consts = append(x.consts, l)
	}
	x.used = modelWords(x.consts)
	if x.used > heap {
		return impl.Outcome{Code: impl.CodeMemory}
	}
	for range m.Globals {
		x.globals = append(x.globals, leaf{word: 19})
	}
	due := map[int]bool{}
	for _, n := range forced {
		due[n] = true
	}
	x.last = &modelFrame{deep: 1}
	x.out.Frames = 1
	for code := goesOn; ; {
		switch {
		case code != goesOn:
			x.out.Code = code
			return x.out
		case x.out.Steps == fuel:
			code = impl.CodeFuel
			continue
		case due[x.out.Steps]:
			x.collect()
		}
		x.out.Steps++
		code = x.step()
	}
}

// modelWords counts the words of all that can be reached.
func modelWords(roots []leaf) int {
	words := 0
	for _, o := range modelReach(roots) {
		words += 1 + len(o.fields)
	}
	return words
}

func (x *modelMachine) datum(data []impl.Datum) (leaf, []impl.Datum) {
	d, rest := data[0], data[1:]
	switch d.Kind {
	case impl.DatInt:
		return leaf{word: intWord(d.N)}, rest
	case impl.DatBool:
		return leaf{word: []int{7, 11}[d.N]}, rest
	case impl.DatSymbol:
		return leaf{word: symWord(x.symbol(string(d.Text)))}, rest
	}
	elements := make([]leaf, d.Count)
	for i := range elements {
		elements[i], rest = x.datum(rest)
	}
	made := leaf{word: 3}
	for _, e := range slices.Backward(elements) {
		made = leaf{to: &thing{kind: 0, fields: []leaf{e, made}}}
	}
	return made, rest
}

func (x *modelMachine) symbol(text string) int {
	n := slices.IndexFunc(x.names, func(name []byte) bool { return string(name) == text })
	if n < 0 {
		n = len(x.names)
		x.names = append(x.names, []byte(text))
	}
	return n
}

func (x *modelMachine) collect() {
	x.out.Collects++
	roots := slices.Concat(x.consts, x.globals)
	for f := x.last; f != nil; f = f.back {
		roots = append(append(roots, f.closure), f.slots...)
	}
	x.used = modelWords(roots)
}

func (x *modelMachine) object(kind int, fields ...leaf) (leaf, int) {
	words := 1 + len(fields)
	if x.used+words > x.heap {
		x.collect()
	}
	if x.used+words > x.heap {
		return leaf{}, impl.CodeMemory
	}
	x.used += words
	return leaf{to: &thing{kind: kind, fields: slices.Clone(fields)}}, goesOn
}

func (x *modelMachine) step() int {
	f := x.last
	i := x.m.Funcs[f.fn].Code[f.at]
	f.at++
	rest := len(f.slots) - len(modelTakes(x.m, i))
	args := slices.Clone(f.slots[rest:])
	switch i.Op {
	case impl.InsCall:
		return x.call(&modelFrame{back: f, deep: f.deep + 1}, rest, args)
	case impl.InsTail:
		return x.call(&modelFrame{back: f.back, deep: f.deep}, rest, args)
	case impl.InsReturn:
		x.last = f.back
		if x.last == nil {
			x.out.Text = []byte(modelShow(args[0], x.names))
			return impl.CodeOK
		}
		x.last.slots = append(x.last.slots, args[0])
		return goesOn
	}
	left, code := x.rule(f, i, args)
	f.slots = append(f.slots[:rest], left...)
	return code
}

func (x *modelMachine) call(next *modelFrame, rest int, args []leaf) int {
	if modelKind(args[0]) != 'f' {
		return impl.CodeType
	}
	_, next.fn = split(args[0].to.fields[0].word)
	if len(args)-1 != x.m.Funcs[next.fn].Params {
		return impl.CodeArity
	}
	if next.deep > 2000 {
		return impl.CodeLimit
	}
	x.last.slots = x.last.slots[:rest]
	next.closure, next.slots = args[0], args[1:]
	x.last = next
	x.out.Frames = max(x.out.Frames, next.deep)
	return goesOn
}

// rule answers what an instruction leaves, or the code with which it ends the
// run.
func (x *modelMachine) rule(f *modelFrame, i impl.Ins, args []leaf) ([]leaf, int) {
	one := func(l leaf, code int) ([]leaf, int) { return []leaf{l}, code }
	value := func(l leaf) ([]leaf, int) {
		if l == (leaf{word: 19}) {
			return nil, impl.CodeUnset
		}
		return []leaf{l}, goesOn
	}
	switch i.Op {
	case impl.InsConst:
		return one(x.consts[i.A], goesOn)
	case impl.InsLocal:
		return one(f.slots[i.A], goesOn)
	case impl.InsFree:
		return one(f.closure.to.fields[i.A+1], goesOn)
	case impl.InsGlobal:
		return value(x.globals[i.A])
	case impl.InsSetGlobal:
		x.globals[i.A] = args[0]
	case impl.InsBox:
		return one(x.object(3, append(args, leaf{word: 19})[0]))
	case impl.InsUnbox:
		return value(args[0].to.fields[0])
	case impl.InsSetBox:
		args[0].to.fields[0] = args[1]
	case impl.InsClosure:
		return one(x.object(2, append([]leaf{{word: intWord(i.A)}}, args...)...))
	case impl.InsJump:
		f.at = i.A
	case impl.InsJumpFalse:
		if args[0] == (leaf{word: 7}) {
			f.at = i.A
		}
	case impl.InsPrim:
		return one(x.prim(i.A, args))
	case impl.InsSlide:
		return one(args[len(args)-1], goesOn)
	case impl.InsVoid:
		return one(leaf{word: 15}, goesOn)
	}
	return nil, goesOn
}

// modelKind answers the kind of a value, in the letters of kindMakers, and x
// for a box.
func modelKind(l leaf) byte {
	if l.to != nil {
		return "pvfx"[l.to.kind]
	}
	switch tag, n := split(l.word); tag {
	case 0:
		return 'i'
	case 2:
		return 's'
	default:
		return "nbbo"[n]
	}
}

func (x *modelMachine) prim(p int, args []leaf) (leaf, int) {
	asked, _ := modelSign(p)
	var n []int // the numbers among the arguments, else 0
	for at, a := range args {
		if asked[at] != 'a' && asked[at] != modelKind(a) {
			return leaf{}, impl.CodeType
		}
		_, number := split(a.word)
		n = append(n, number)
	}
	name := primitiveNames[p]
	switch name {
	case "cons":
		return x.object(0, args...)
	case "car":
		return args[0].to.fields[0], goesOn
	case "cdr":
		return args[0].to.fields[1], goesOn
	case "make-vector":
		if n[0] < 0 || n[0] > 1000 {
			return leaf{}, impl.CodeIndex
		}
		return x.object(1, slices.Repeat(args[1:], n[0])...)
	case "vector-ref", "vector-set!":
		elements := args[0].to.fields
		if n[1] < 0 || n[1] >= len(elements) {
			return leaf{}, impl.CodeIndex
		}
		if name == "vector-ref" {
			return elements[n[1]], goesOn
		}
		elements[n[1]] = args[2]
		return leaf{word: 15}, goesOn
	case "vector-length":
		return leaf{word: intWord(len(args[0].to.fields))}, goesOn
	case "+", "-", "*", "quotient", "remainder":
		number, code := modelArithmetic(name, n[0], n[1])
		return leaf{word: intWord(number)}, code
	}
	return leaf{word: map[bool]int{false: 7, true: 11}[modelTruth(name, args, n)]}, goesOn
}

// modelArithmetic answers the exact result, or a code.
func modelArithmetic(name string, a, b int) (int, int) {
	first, second, result := big.NewInt(int64(a)), big.NewInt(int64(b)), new(big.Int)
	switch name {
	case "+":
		result.Add(first, second)
	case "-":
		result.Sub(first, second)
	case "*":
		result.Mul(first, second)
	default:
		if b == 0 {
			return 0, impl.CodeZero
		}
		rest := new(big.Int)
		result.QuoRem(first, second, rest)
		if name == "remainder" {
			result = rest
		}
	}
	if result.Cmp(big.NewInt(-1<<61)) < 0 || result.Cmp(big.NewInt(1<<61)) >= 0 {
		return 0, impl.CodeOverflow
	}
	return int(result.Int64()), goesOn
}

func modelTruth(name string, args []leaf, n []int) bool {
	switch name {
	case "=":
		return n[0] == n[1]
	case "<":
		return n[0] < n[1]
	case "eq?":
		return args[0] == args[1]
	case "not":
		return args[0] == leaf{word: 7}
	}
	kinds := map[string]byte{"null?": 'n', "pair?": 'p', "fixnum?": 'i', "symbol?": 's', "procedure?": 'f', "vector?": 'v'}
	return kinds[name] == modelKind(args[0])
}
