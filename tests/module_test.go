package tests

import (
	"math"
	"slices"
	"testing"

	"loop.example/s01541/impl"
)

// The constants of the modules in these tests, by number.
const (
	constInt = iota
	constBool
	constSymbol
	constNil
	constPair
)

// ins answers an instruction with the operands given, else 0.
func ins(op int, operands ...int) impl.Ins {
	both := [2]int{}
	copy(both[:], operands)
	return impl.Ins{Op: op, A: both[0], B: both[1]}
}

var (
	insInt    = ins(impl.InsConst, constInt)
	insBool   = ins(impl.InsConst, constBool)
	insPair   = ins(impl.InsConst, constPair)
	insWrap   = ins(impl.InsBox, 0)
	insEmpty  = ins(impl.InsBox, 1)
	insUnbox  = ins(impl.InsUnbox)
	insSetBox = ins(impl.InsSetBox)
	insReturn = ins(impl.InsReturn)
	insPop    = ins(impl.InsPop)
	insVoid   = ins(impl.InsVoid)
)

func insPrim(p int) impl.Ins   { return ins(impl.InsPrim, p) }
func insLocal(n int) impl.Ins  { return ins(impl.InsLocal, n) }
func insJump(to int) impl.Ins  { return ins(impl.InsJump, to) }
func insFalse(to int) impl.Ins { return ins(impl.InsJumpFalse, to) }
func insSlide(n int) impl.Ins  { return ins(impl.InsSlide, n) }

// times answers an instruction so many times.
func times(count int, i impl.Ins) []impl.Ins {
	return slices.Repeat([]impl.Ins{i}, count)
}

func function(params int, free []bool, code ...impl.Ins) impl.Func {
	return impl.Func{Params: params, Free: free, Code: code}
}

// ending is a function of this many parameters that ends at once.
func ending(params int, free ...bool) impl.Func {
	return function(params, free, insVoid, insReturn)
}

// moduleOf answers a module of a main function of this code and others behind
// it, with a constant of each kind and two globals.
func moduleOf(code []impl.Ins, others ...impl.Func) impl.Module {
	consts := [][]impl.Datum{row(num(7)), row(truth(0)), row(sym("s")), row(list(0)), row(list(2), num(1), list(0))}
	return impl.Module{Consts: consts, Globals: 2, Funcs: append([]impl.Func{function(0, nil, code...)}, others...)}
}

func mainOf(code ...impl.Ins) impl.Module { return moduleOf(code) }

// withConsts answers a module whose main function ends at once, with these
// constants.
func withConsts(consts ...[]impl.Datum) impl.Module {
	return impl.Module{Consts: consts, Funcs: []impl.Func{ending(0)}}
}

func checkFormed(t *testing.T, what string, m impl.Module, want bool) {
	t.Helper()
	if got := impl.ValidModule(m); got != want {
		t.Errorf("%s: well-formed %v, want %v", what, got, want)
	}
	proven, code, fn := impl.Verify(m)
	if (code != impl.CodeBad) != want {
		t.Errorf("%s: Verify answers code %d", what, code)
	}
	if !want && (len(proven) != 0 || fn != 0) {
		t.Errorf("%s: Verify answers %s and %d beside code %d", what, brief(proven), fn, code)
	}
	if text := impl.ListModule(m); (len(text) > 0) != want {
		t.Errorf("%s: ListModule answers %s", what, brief(string(text)))
	}
}

func TestConstantsOfModule(t *testing.T) {
	instructions := [18]int{impl.InsConst, impl.InsLocal, impl.InsFree, impl.InsGlobal, impl.InsSetGlobal, impl.InsBox,
		impl.InsUnbox, impl.InsSetBox, impl.InsClosure, impl.InsCall, impl.InsTail, impl.InsReturn, impl.InsJump,
		impl.InsJumpFalse, impl.InsPrim, impl.InsSlide, impl.InsPop, impl.InsVoid}
	for want, got := range instructions {
		if got != want {
			t.Errorf("instruction %d is %d", want, got)
		}
	}
	primitives := [22]int{impl.PrimAdd, impl.PrimSub, impl.PrimMul, impl.PrimQuotient, impl.PrimRemainder,
		impl.PrimEqual, impl.PrimLess, impl.PrimCons, impl.PrimCar, impl.PrimCdr, impl.PrimIsNull, impl.PrimIsPair,
		impl.PrimIsInt, impl.PrimIsSymbol, impl.PrimIsProc, impl.PrimIsVector, impl.PrimEq, impl.PrimNot, impl.PrimMake,
		impl.PrimRef, impl.PrimSet, impl.PrimLength}
	for want, got := range primitives {
		if got != want {
			t.Errorf("primitive %d is %d", want, got)
		}
	}
	limits := [7]int{impl.MaxFuncs, impl.MaxCode, impl.MaxParams, impl.MaxFree, impl.MaxGlobals, impl.MaxConsts,
		impl.MaxStack}
	if want := [7]int{200, 5000, 20, 50, 200, 500, 200}; limits != want {
		t.Errorf("limits %v, want %v", limits, want)
	}
}

func TestModuleFunctions(t *testing.T) {
	checkFormed(t, "the zero module", impl.Module{}, false)
	checkFormed(t, "no functions", impl.Module{Globals: 2, Funcs: []impl.Func{}}, false)
	checkFormed(t, "one function", impl.Module{Funcs: []impl.Func{ending(0)}}, true)
	many := func(n int) impl.Module { return impl.Module{Funcs: slices.Repeat([]impl.Func{ending(0)}, n)} }
	checkFormed(t, "MaxFuncs functions", many(impl.MaxFuncs), true)
	checkFormed(t, "one function more", many(impl.MaxFuncs+1), false)
	checkFormed(t, "a main function with a parameter", impl.Module{Funcs: []impl.Func{ending(1)}}, false)
	checkFormed(t, "a main function with less than no parameter", impl.Module{Funcs: []impl.Func{ending(-1)}}, false)
	checkFormed(t, "a main function with a captured value", impl.Module{Funcs: []impl.Func{ending(0, false)}}, false)
	checkFormed(t, "a main function with a captured box", impl.Module{Funcs: []impl.Func{ending(0, true)}}, false)
	other := func(f impl.Func) impl.Module { return moduleOf([]impl.Ins{insVoid, insReturn}, ending(0), f) }
	checkFormed(t, "Params -1", other(ending(-1)), false)
	checkFormed(t, "Params 0", other(ending(0)), true)
	checkFormed(t, "Params MaxParams", other(ending(impl.MaxParams)), true)
	checkFormed(t, "Params one more", other(ending(impl.MaxParams+1)), false)
	checkFormed(t, "the least Params", other(ending(math.MinInt)), false)
	checkFormed(t, "the greatest Params", other(ending(math.MaxInt)), false)
	checkFormed(t, "MaxFree in Free", other(ending(0, make([]bool, impl.MaxFree)...)), true)
	checkFormed(t, "one more in Free", other(ending(0, make([]bool, impl.MaxFree+1)...)), false)
}

func TestModuleCodeSizes(t *testing.T) {
	checkFormed(t, "a main function with no instruction", mainOf(), false)
	checkFormed(t, "another function with no instruction", moduleOf(times(1, insVoid), function(0, nil)), false)
	checkFormed(t, "no instruction ahead of a good function", moduleOf(nil, ending(0)), false)
	checkFormed(t, "MaxCode instructions", mainOf(times(impl.MaxCode, insVoid)...), true)
	checkFormed(t, "one instruction more", mainOf(times(impl.MaxCode+1, insVoid)...), false)
	split := func(first, second int) impl.Module {
		return moduleOf(times(first, insVoid), function(0, nil, times(second, insPop)...))
	}
	checkFormed(t, "MaxCode instructions in two functions", split(impl.MaxCode-7, 7), true)
	checkFormed(t, "one instruction more in two functions", split(impl.MaxCode-7, 8), false)
	checkFormed(t, "MaxCode instructions, the most in the second", split(1, impl.MaxCode-1), true)
	checkFormed(t, "one instruction more, the most in the second", split(1, impl.MaxCode), false)
	thirds := moduleOf(times(2000, insVoid), function(0, nil, times(2000, insPop)...), function(0, nil, times(1000, insPop)...))
	checkFormed(t, "MaxCode instructions in three functions", thirds, true)
	thirds.Funcs[1].Code = times(2001, insPop)
	checkFormed(t, "one instruction more in three functions", thirds, false)
}

func TestModuleGlobals(t *testing.T) {
	for globals, want := range map[int]bool{-1: false, 0: true, 1: true, impl.MaxGlobals: true, impl.MaxGlobals + 1: false,
		math.MinInt: false, math.MaxInt: false} {
		checkFormed(t, "globals", impl.Module{Globals: globals, Funcs: []impl.Func{ending(0)}}, want)
	}
}

func TestModuleConstants(t *testing.T) {
	checkFormed(t, "no constants", withConsts(), true)
	checkFormed(t, "one of each kind", withConsts(row(num(-3)), row(truth(1)), row(sym("x")), row(list(0)), row(list(1), num(2))), true)
	checkFormed(t, "no datum", withConsts(row()), false)
	checkFormed(t, "no datum behind a good constant", withConsts(row(num(1)), row()), false)
	checkFormed(t, "two data", withConsts(row(num(1), num(2))), false)
	checkFormed(t, "a list and a datum behind it", withConsts(row(list(1), num(1), num(2))), false)
	checkFormed(t, "a list with an element too few", withConsts(row(list(2), num(1))), false)
	checkFormed(t, "a bool 2", withConsts(row(truth(2))), false)
	checkFormed(t, "no small int", withConsts(row(num(impl.MaxInt+1))), false)
	checkFormed(t, "the greatest small int", withConsts(row(num(impl.MaxInt))), true)
	checkFormed(t, "no symbol", withConsts(row(sym("1"))), false)
	checkFormed(t, "a kind that there is not", withConsts(row(impl.Datum{Kind: 4})), false)
	checkFormed(t, "a good constant ahead of a wrong one", withConsts(row(num(1)), row(sym(""))), false)
	checkFormed(t, "MaxDeep lists", withConsts(nested(impl.MaxDeep)), true)
	checkFormed(t, "one list deeper", withConsts(nested(impl.MaxDeep+1)), false)
}

func TestModuleConstantLimits(t *testing.T) {
	many := func(n int) [][]impl.Datum { return slices.Repeat([][]impl.Datum{row(num(1))}, n) }
	checkFormed(t, "MaxConsts constants", withConsts(many(impl.MaxConsts)...), true)
	checkFormed(t, "one constant more", withConsts(many(impl.MaxConsts+1)...), false)
	long := func(data int) []impl.Datum {
		return append(row(list(data-1)), slices.Repeat(row(num(1)), data-1)...)
	}
	checkFormed(t, "MaxData data in one constant", withConsts(long(impl.MaxData)), true)
	checkFormed(t, "one datum more in one constant", withConsts(long(impl.MaxData+1)), false)
	checkFormed(t, "MaxData data in two constants", withConsts(long(impl.MaxData-1), row(num(1))), true)
	checkFormed(t, "one datum more in two constants", withConsts(long(impl.MaxData), row(num(1))), false)
	checkFormed(t, "MaxData data in many constants", withConsts(append(many(499), long(impl.MaxData-499))...), true)
	checkFormed(t, "one datum more in many constants", withConsts(append(many(499), long(impl.MaxData-498))...), false)
	checkFormed(t, "three constants that are too many data", withConsts(long(1001), long(1000), long(1000)), false)
}

// operandCase is an instruction of the second function of operandModule, with
// the least and the greatest number that A may be.
type operandCase struct {
	op    int
	least int
	most  int
}

// operandModule has five constants, two globals, and four functions; the second
// one has this instruction, six in all and two captured values.
func operandModule(i impl.Ins) impl.Module {
	tested := function(3, []bool{true, false}, append(times(5, insVoid), i)...)
	return moduleOf([]impl.Ins{insVoid, insReturn}, tested, ending(1), ending(2, true, true, false))
}

func TestModuleOperands(t *testing.T) {
	cases := []operandCase{{impl.InsConst, 0, 4}, {impl.InsLocal, 0, impl.MaxStack - 1}, {impl.InsFree, 0, 1},
		{impl.InsGlobal, 0, 1}, {impl.InsSetGlobal, 0, 1}, {impl.InsBox, 0, 1}, {impl.InsUnbox, 0, 0},
		{impl.InsSetBox, 0, 0}, {impl.InsCall, 0, impl.MaxParams}, {impl.InsTail, 0, impl.MaxParams},
		{impl.InsReturn, 0, 0}, {impl.InsJump, 0, 5}, {impl.InsJumpFalse, 0, 5}, {impl.InsPrim, 0, 21},
		{impl.InsSlide, 0, impl.MaxStack}, {impl.InsPop, 0, 0}, {impl.InsVoid, 0, 0}}
	for _, c := range cases {
		what := string(impl.ListModule(operandModule(ins(c.op))))
		for _, b := range []int{-1, 0, 1, 2, math.MinInt, math.MaxInt} {
			for _, a := range []int{math.MinInt, -1, c.least, (c.least + c.most) / 2, c.most, c.most + 1, math.MaxInt} {
				checkFormed(t, what, operandModule(ins(c.op, a, b)), b == 0 && c.least <= a && a <= c.most)
			}
		}
	}
}

func TestModuleClosureOperands(t *testing.T) {
	frees := map[int]int{1: 2, 2: 0, 3: 3}
	for _, a := range []int{math.MinInt, -1, 0, 1, 2, 3, 4, 5, math.MaxInt} {
		for _, b := range []int{math.MinInt, -1, 0, 1, 2, 3, 4, math.MaxInt} {
			count, there := frees[a]
			checkFormed(t, "closure", operandModule(ins(impl.InsClosure, a, b)), there && b == count)
		}
	}
	alone := impl.Module{Funcs: []impl.Func{function(0, nil, ins(impl.InsClosure, 0, 0), insReturn)}}
	checkFormed(t, "a closure of the first function", alone, false)
	alone.Funcs[0].Code[0].A = 1
	checkFormed(t, "a closure of a function that is not there", alone, false)
	full := moduleOf(append(times(impl.MaxFree, insVoid), ins(impl.InsClosure, 1, impl.MaxFree), insReturn), ending(0, make([]bool, impl.MaxFree)...))
	checkFormed(t, "a closure of MaxFree values", full, true)
}

func TestModuleOperations(t *testing.T) {
	for op := range 18 {
		operands := []int{0, 0}
		if op == impl.InsClosure {
			operands = []int{2, 0}
		}
		checkFormed(t, "one of the 18", operandModule(ins(op, operands...)), true)
	}
	for _, op := range []int{-1, 18, 19, 255, math.MinInt, math.MaxInt} {
		checkFormed(t, "none of the 18", operandModule(ins(op)), false)
		checkFormed(t, "none of the 18, to which no way leads", mainOf(insVoid, insReturn, ins(op)), false)
	}
	checkFormed(t, "a wrong operand to which no way leads", mainOf(insVoid, insReturn, ins(impl.InsGlobal, 2)), false)
}

func TestModuleOperandsOfNothing(t *testing.T) {
	bare := func(i impl.Ins) impl.Module {
		return impl.Module{Funcs: []impl.Func{function(0, nil, i, insVoid, insReturn)}}
	}
	for _, op := range []int{impl.InsConst, impl.InsFree, impl.InsGlobal, impl.InsSetGlobal} {
		checkFormed(t, "nothing that A could be", bare(ins(op)), false)
		checkFormed(t, "nothing that A could be", bare(ins(op, -1)), false)
	}
	checkFormed(t, "a slot", bare(insLocal(impl.MaxStack-1)), true)
	wide := impl.Module{Globals: impl.MaxGlobals, Funcs: []impl.Func{function(0, nil, ins(impl.InsGlobal, impl.MaxGlobals-1))}}
	checkFormed(t, "the last global", wide, true)
	wide.Funcs[0].Code[0].A++
	checkFormed(t, "one global beyond", wide, false)
	// What counts for a jump are the instructions of its own function.
	short := moduleOf(times(9, insVoid), function(0, nil, insVoid, insJump(2), insReturn))
	checkFormed(t, "a jump to the last instruction", short, true)
	short.Funcs[1].Code[1].A = 3
	checkFormed(t, "a jump to what the first function alone has", short, false)
}
