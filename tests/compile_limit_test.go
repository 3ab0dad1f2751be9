package tests

import (
	"fmt"
	"strings"
	"testing"

	"loop.example/s01541/impl"
)

// numbered writes a text so many times, each % in it as the number of the time.
func numbered(count int, text string) string {
	var out strings.Builder
	for n := range count {
		out.WriteString(strings.ReplaceAll(text, "%", fmt.Sprint(n)))
	}
	return out.String()
}

// checkLimit asks that a source of a size keeps a limit and the next one breaks
// it, and holds both against the model.
func checkLimit(t *testing.T, what string, size int, source func(size int) string) {
	t.Helper()
	compiled(t, source(size))
	checkNoModule(t, what, programOf(source(size+1)), impl.CodeLimit)
	for _, n := range []int{size - 1, size, size + 1} {
		checkCompileModel(t, treesOf(source(n)), &compileTally{})
	}
}

func TestCompileGlobalsAtTheLimit(t *testing.T) {
	checkLimit(t, "globals", impl.MaxGlobals, func(n int) string { return numbered(n, "(define g% 1)") })
	checkLimit(t, "globals used ahead", impl.MaxGlobals, func(n int) string { return numbered(n, "g% ") + numbered(n, "(define g% 1)") })
	compiled(t, strings.Repeat("(define g 1)", 2*impl.MaxGlobals))
}

func TestCompileConstantsAtTheLimit(t *testing.T) {
	checkLimit(t, "constants", impl.MaxConsts, func(n int) string { return numbered(n, "% ") })
	checkLimit(t, "constants in a function", impl.MaxConsts-1, func(n int) string { return "(lambda () " + numbered(n, "'s% ") + ") 1" })
	checkLimit(t, "the constant of and", impl.MaxConsts-1, func(n int) string { return "(and " + numbered(n, "% ") + ")" })
	compiled(t, strings.Repeat("1 2 '(a b) ", 2*impl.MaxConsts/3))
	// One constant of all data that a program can have beside it.
	whole := "'(" + strings.Repeat("1 ", impl.MaxData-3) + ")"
	if m := compiled(t, whole); len(m.Consts) != 1 || len(m.Consts[0]) != impl.MaxData-2 {
		t.Errorf("a constant of %d data", len(m.Consts[0]))
	}
}

func TestCompileFunctionsAtTheLimit(t *testing.T) {
	checkLimit(t, "functions", impl.MaxFuncs-1, func(n int) string { return numbered(n, "(lambda () 1)") })
	checkLimit(t, "functions within each other", impl.MaxFuncs-1, func(n int) string {
		deep := func(n int) string { return strings.Repeat("(lambda () ", n) + "1" + strings.Repeat(")", n) }
		return deep(90) + deep(90) + deep(n-180)
	})
}

func TestCompileParamsAtTheLimit(t *testing.T) {
	checkLimit(t, "parameters", impl.MaxParams, func(n int) string { return "(lambda (" + numbered(n, "p% ") + ") 1)" })
	checkLimit(t, "boxed parameters", impl.MaxParams, func(n int) string {
		return "(lambda (" + numbered(n, "p% ") + ")" + numbered(n, "(set! p% 1)") + ")"
	})
	checkLimit(t, "arguments", impl.MaxParams, func(n int) string { return "(1" + strings.Repeat(" 1", n) + ")" })
	checkLimit(t, "arguments of no tail call", impl.MaxParams, func(n int) string { return "(1" + strings.Repeat(" 1", n) + ") 1" })
	checkCode(t, "(lambda () 1)", "[0] closure1/0 return [0] const0 return")
	checkCode(t, "(1)", "[0] const0 tail0")
	m := compiled(t, "(lambda ("+numbered(impl.MaxParams, "p% ")+") p19)")
	if f := m.Funcs[1]; f.Params != impl.MaxParams || f.Code[0] != insLocal(19) {
		t.Errorf("%d parameters, %v", f.Params, f.Code)
	}
}

func TestCompileFreeAtTheLimit(t *testing.T) {
	// The variables are bound in the order in which they are not come to.
	within := func(inner string) string { return "(let (" + numbered(impl.MaxFree+1, "(v% 1)") + ") " + inner + ")" }
	uses := func(from, to int) string {
		text := ""
		for n := to - 1; n >= from; n-- {
			text += fmt.Sprintf("v%d ", n)
		}
		return text
	}
	checkLimit(t, "captured values", impl.MaxFree, func(n int) string { return within("(lambda () " + uses(0, n) + ")") })
	checkLimit(t, "captured boxes", impl.MaxFree, func(n int) string { return within("(lambda () " + numbered(n, "(set! v% 1)") + ")") })
	checkLimit(t, "captured values of the function between", impl.MaxFree, func(n int) string {
		return within("(lambda () (lambda () " + uses(0, 25) + ") (lambda () " + uses(20, n) + "))")
	})
	m := compiled(t, within("(lambda () "+uses(0, impl.MaxFree)+")"))
	if f := m.Funcs[1]; len(f.Free) != impl.MaxFree || m.Funcs[0].Code[impl.MaxFree+1] != insLocal(impl.MaxFree-1) {
		t.Errorf("%d captured values, %v", len(f.Free), m.Funcs[0].Code)
	}
}

func TestCompileCodeAtTheLimit(t *testing.T) {
	// A body of so many instructions: two a number, the last with its return;
	// three where a let is no end.
	body := func(n int) string {
		return strings.Repeat("(let () 1) ", n%2) + strings.Repeat("1 ", (n-3*(n%2))/2)
	}
	checkLimit(t, "instructions", impl.MaxCode, body)
	checkLimit(t, "instructions in two functions", impl.MaxCode, func(n int) string { return "(lambda () " + body(n-2) + ")" })
	checkLimit(t, "instructions in three functions", impl.MaxCode, func(n int) string {
		return "(lambda () " + body(2000) + ") (lambda () " + body(n-2004) + ")"
	})
	for _, n := range []int{impl.MaxCode - 1, impl.MaxCode} {
		if got := len(compiled(t, body(n)).Funcs[0].Code); got != n {
			t.Errorf("%d instructions, want %d", got, n)
		}
	}
}

func TestCompileStackAtTheLimit(t *testing.T) {
	let := func(n int, inner string) string { return "(let (" + numbered(n, "(v% 1)") + ") " + inner + ")" }
	checkLimit(t, "variables and a value", impl.MaxStack-1, func(n int) string { return let(n, "1") })
	checkLimit(t, "variables and a value, no tail", impl.MaxStack-1, func(n int) string { return let(n, "1") + " 1" })
	checkLimit(t, "variables of letrec", impl.MaxStack-2, func(n int) string { return "(letrec (" + numbered(n, "(v% 1)") + ") 1)" })
	checkLimit(t, "or", impl.MaxStack-2, func(n int) string { return let(n, "(or 1 2)") })
	checkLimit(t, "and", impl.MaxStack-1, func(n int) string { return let(n, "(and 1 2)") })
	checkLimit(t, "if", impl.MaxStack-1, func(n int) string { return let(n, "(if 1 2)") })
	checkLimit(t, "set", impl.MaxStack-2, func(n int) string { return let(n, "(set! v0 1)") })
	checkLimit(t, "a use of a box", impl.MaxStack-2, func(n int) string { return let(n, "(begin v0 (set! v0 v1))") })
	checkLimit(t, "a primitive", impl.MaxStack-3, func(n int) string { return let(n, "(vector-set! 1 2 3)") })
	checkLimit(t, "a call", impl.MaxStack-3, func(n int) string { return let(n, "(1 2 3)") })
	checkLimit(t, "a closure", impl.MaxStack-4, func(n int) string { return let(n, "(lambda () v0 v1 v2 v3)") })
	checkLimit(t, "a way on which no run goes", impl.MaxStack-2, func(n int) string { return let(n, "(if #f (cons 1 2))") })
	checkLimit(t, "a function", impl.MaxStack-21, func(n int) string { return "(lambda (" + numbered(20, "p% ") + ") " + let(n, "1") + ")" })
	checkLimit(t, "boxed parameters", impl.MaxStack-4, func(n int) string { return "(lambda (a b) (set! b a) " + let(n, "1") + ")" })
	waiting := strings.Repeat("(cons 1 ", 90) + "1" + strings.Repeat(")", 90)
	checkLimit(t, "arguments that wait", impl.MaxStack-91, func(n int) string { return let(n, waiting) })
}

func TestCompileFarBeyondTheLimits(t *testing.T) {
	names := numbered(1350, "v% ")
	deep := strings.Repeat("(lambda () ", 97) + names + strings.Repeat(")", 97)
	checkNoModule(t, "very many captured values", programOf("(lambda ("+names+") "+deep+")"), impl.CodeLimit)
	checkNoModule(t, "very many variables", programOf("(let ("+numbered(900, "(v% 1)")+") 1)"), impl.CodeLimit)
	checkNoModule(t, "very many parts of or", programOf("(or "+strings.Repeat("1 ", 2998)+")"), impl.CodeLimit)
	checkNoModule(t, "very many arguments", programOf("("+strings.Repeat("1 ", 2999)+")"), impl.CodeLimit)
	checkNoModule(t, "all data that there can be", programOf(strings.Repeat("1 ", impl.MaxData)), impl.CodeLimit)
	compiled(t, "(and "+strings.Repeat("1 ", 2000)+")")
	compiled(t, "(or "+strings.Repeat("1 ", 900)+")")
}
