package tests

import (
	"slices"
	"strings"
	"testing"

	"loop.example/s01541/impl"
)

func checkListed(t *testing.T, m impl.Module, want ...string) {
	t.Helper()
	text := strings.Join(want, "\n") + "\n"
	if got := string(impl.ListModule(m)); got != text {
		t.Errorf("listed\n%.2000s\nwant\n%.2000s", got, text)
	}
}

func TestListLeastModule(t *testing.T) {
	checkListed(t, impl.Module{Funcs: []impl.Func{ending(0)}}, "globals 0", "func 0 0", "  0 void", "  1 return")
	checkListed(t, impl.Module{Globals: impl.MaxGlobals, Funcs: []impl.Func{function(0, nil, insPop)}}, "globals 200",
		"func 0 0", "  0 pop")
}

func TestListConstants(t *testing.T) {
	m := withConsts(row(num(-12)), row(truth(1)), row(truth(0)), row(sym("a-b!")), row(list(0)),
		row(list(3), list(2), num(1), list(0), sym("x"), list(1), list(1), truth(0)), row(num(-impl.MaxInt-1)))
	checkListed(t, m, "globals 0", "const 0 -12", "const 1 #t", "const 2 #f", "const 3 a-b!", "const 4 ()",
		"const 5 ((1 ()) x ((#f)))", "const 6 "+least, "func 0 0", "  0 void", "  1 return")
	quoted, _, _ := impl.Read([]byte("'a"))
	checkListed(t, withConsts(quoted), "globals 0", "const 0 (quote a)", "func 0 0", "  0 void", "  1 return")
	deep := strings.Repeat("(", impl.MaxDeep) + strings.Repeat(")", impl.MaxDeep)
	checkListed(t, withConsts(nested(impl.MaxDeep)), "globals 0", "const 0 "+deep, "func 0 0", "  0 void", "  1 return")
}

func TestListFunctions(t *testing.T) {
	m := impl.Module{Funcs: []impl.Func{ending(0), ending(20), ending(1, false), ending(2, true), ending(0, true, false, false, true)}}
	checkListed(t, m, "globals 0", "func 0 0", "  0 void", "  1 return", "func 1 20", "  0 void", "  1 return",
		"func 2 1 any", "  0 void", "  1 return", "func 3 2 box", "  0 void", "  1 return",
		"func 4 0 box any any box", "  0 void", "  1 return")
}

func TestListInstructions(t *testing.T) {
	code := []impl.Ins{insPair, insLocal(199), ins(impl.InsFree, 1), ins(impl.InsGlobal, 1), ins(impl.InsSetGlobal, 0),
		insWrap, insEmpty, insUnbox, insSetBox, ins(impl.InsClosure, 1, 2), ins(impl.InsClosure, 2, 0), ins(impl.InsCall, 20),
		ins(impl.InsTail, 0), insReturn, insJump(14), insFalse(0), insPrim(impl.PrimAdd), insSlide(200), insPop, insVoid}
	m := moduleOf([]impl.Ins{insVoid}, function(0, []bool{false, true}, code...), ending(4))
	checkListed(t, m, "globals 2", "const 0 7", "const 1 #f", "const 2 s", "const 3 ()", "const 4 (1 ())",
		"func 0 0", "  0 void", "func 1 0 any box", "  0 const 4", "  1 local 199", "  2 free 1", "  3 global 1",
		"  4 setglobal 0", "  5 box 0", "  6 box 1", "  7 unbox", "  8 setbox", "  9 closure 1 2", "  10 closure 2 0",
		"  11 call 20", "  12 tail 0", "  13 return", "  14 jump 14", "  15 jumpfalse 0", "  16 prim +", "  17 slide 200",
		"  18 pop", "  19 void", "func 2 4", "  0 void", "  1 return")
}

func TestListPrimitives(t *testing.T) {
	names := strings.Fields("+ - * quotient remainder = < cons car cdr null? pair? fixnum? symbol? procedure? vector? eq? not " +
		"make-vector vector-ref vector-set! vector-length")
	for p, name := range names {
		m := impl.Module{Funcs: []impl.Func{function(0, nil, insPrim(p))}}
		checkListed(t, m, "globals 0", "func 0 0", "  0 prim "+name)
	}
}

func TestListAsksForNothingSafe(t *testing.T) {
	m := mainOf(insUnbox, insLocal(3))
	checkUnsafe(t, "not safe", m, 0)
	m.Consts, m.Globals = nil, 0
	checkListed(t, m, "globals 0", "func 0 0", "  0 unbox", "  1 local 3")
}

func TestListGreatModule(t *testing.T) {
	m := impl.Module{Globals: 200, Funcs: []impl.Func{function(0, nil, times(impl.MaxCode, insFalse(impl.MaxCode-1))...)}}
	m.Consts = slices.Repeat([][]impl.Datum{row(list(5), num(1), num(2), num(3), num(4), num(5))}, impl.MaxConsts)
	lines := strings.Split(string(impl.ListModule(m)), "\n")
	if len(lines) != 1+impl.MaxConsts+1+impl.MaxCode+1 {
		t.Fatalf("%d lines", len(lines))
	}
	if got := lines[impl.MaxConsts]; got != "const 499 (1 2 3 4 5)" {
		t.Errorf("the last constant: %q", got)
	}
	if got := lines[len(lines)-2]; got != "  4999 jumpfalse 4999" {
		t.Errorf("the last instruction: %q", got)
	}
}
