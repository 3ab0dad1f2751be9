package tests

import (
	"slices"
	"strings"
	"testing"

	"loop.example/s01541/impl"
)

// checkNoModule asks that data come to no module, and which symbols are unbound.
func checkNoModule(t *testing.T, what string, data []impl.Datum, want int, names ...string) {
	t.Helper()
	m, code := impl.Compile(data)
	if code != want || !sameModule(m, impl.Module{}) {
		t.Errorf("%.200s: code %d, want %d, and %s", what, code, want, brief(m))
	}
	var got []string
	for _, name := range impl.Unbound(data) {
		got = append(got, string(name))
	}
	if !slices.Equal(got, names) {
		t.Errorf("%.200s: unbound %q, want %q", what, got, names)
	}
}

func checkOutside(t *testing.T, sources ...string) {
	t.Helper()
	for _, src := range sources {
		checkNoModule(t, src, programOf(src), impl.CodeSyntax)
	}
}

func checkUnbound(t *testing.T, src string, names ...string) {
	t.Helper()
	checkNoModule(t, src, programOf(src), impl.CodeUnbound, names...)
}

// around are places where an expression can stand.
var around = []string{"%", "% 1", "1 %", "(define x %)", "(lambda (a) %)", "(lambda (a) % a)", "(let ((a %)) a)", "(let ((a 1)) %)",
	"(letrec ((a %)) a)", "(letrec ((a 1)) %)", "(if % 1)", "(if 1 %)", "(if 1 2 %)", "(begin %)", "(begin % 1)", "(and %)",
	"(and % 1)", "(and 1 %)", "(or %)", "(or 1 % 2)", "(cons % 1)", "(cons 1 %)", "(% 1)", "(1 %)", "(define x 1) (set! x %)",
	"(lambda () (lambda () %))"}

// checkOutsideAnywhere asks that expressions are outside the grammar wherever
// they stand.
func checkOutsideAnywhere(t *testing.T, expressions ...string) {
	t.Helper()
	for _, e := range expressions {
		for _, place := range around {
			checkOutside(t, strings.ReplaceAll(place, "%", e))
		}
	}
}

func TestCompileDataThatAreNotValid(t *testing.T) {
	checkNoModule(t, "a kind that there is not", row(impl.Datum{Kind: 9}), impl.CodeBad)
	checkNoModule(t, "a list that is not whole", row(list(1)), impl.CodeBad)
	checkNoModule(t, "a number that is not small", row(num(impl.MaxInt+1)), impl.CodeBad)
	checkNoModule(t, "a symbol of no bytes", row(sym("")), impl.CodeBad)
	checkNoModule(t, "a symbol that is a number", row(sym("-1")), impl.CodeBad)
	checkNoModule(t, "a bool that is neither", row(truth(2)), impl.CodeBad)
	checkNoModule(t, "an unbound symbol ahead of it", row(sym("x"), list(1)), impl.CodeBad)
	checkNoModule(t, "the empty list ahead of it", row(list(0), num(impl.MaxInt+1)), impl.CodeBad)
	checkNoModule(t, "a call of too many ahead of it", append(programOf("(1"+strings.Repeat(" 1", 21)+")"), list(1)), impl.CodeBad)
	checkNoModule(t, "one datum too many", slices.Repeat(row(num(1)), impl.MaxData+1), impl.CodeBad)
	checkNoModule(t, "one list too deep", nested(impl.MaxDeep+1), impl.CodeBad)
	checkNoModule(t, "lists at the limit", nested(impl.MaxDeep), impl.CodeSyntax)
	within := func(deep int) string { return strings.Repeat("(begin ", deep) + "1" + strings.Repeat(")", deep) }
	checkCode(t, within(impl.MaxDeep), "[0] const0 return")
	checkNoModule(t, "one begin too deep", programOf(within(impl.MaxDeep+1)), impl.CodeBad)
}

func TestCompileOutsideTheGrammar(t *testing.T) {
	checkOutsideAnywhere(t, "()", "(quote)", "(quote 1 2)", "(if)", "(if 1)", "(if 1 2 3 4)", "(begin)", "(1 ())", "(() 1)")
	checkOutsideAnywhere(t, "(lambda)", "(lambda ())", "(lambda (y))", "(lambda y y)", "(lambda 1 1)", "(lambda #t 1)", "(lambda (1) 1)",
		"(lambda (#f) 1)", "(lambda ((y)) 1)", "(lambda (y ()) 1)", "(lambda (y y) 1)", "(lambda (y z y) 1)", "(lambda (if if) 1)")
	for _, word := range []string{"let", "letrec"} {
		for _, rest := range []string{"", " ()", " ((y 1))", " y 1", " 1 1", " #t 1", " (y) 1", " (1) 1", " (()) 1", " ((y)) 1", " ((y 1 2)) 1",
			" ((1 1)) 1", " ((#t 1)) 1", " (((y) 1)) 1", " ((() 1)) 1", " ((y 1) z) 1", " ((y 1) (y 2)) 1", " ((y 1) (z 1) (y 1)) 1"} {
			checkOutsideAnywhere(t, "("+word+rest+")")
		}
	}
	checkOutsideAnywhere(t, "(set!)", "(set! a)", "(set! a 1 2)", "(set! 1 2)", "(set! #t 1)", "(set! () 1)", "(set! (a) 1)", "(set! 'a 1)")
}

func TestCompileDefinitions(t *testing.T) {
	for _, before := range []string{"", "(define define 1)", "(define x 1)", "1"} {
		for _, form := range []string{"(define)", "(define x)", "(define x 1 2)", "(define 1 2)", "(define #t 1)", "(define () 1)", "(define (f) 1)",
			"(define 'x 1)", "(define x ())", "(define define)", "(define (define x 1) 2)"} {
			checkOutside(t, before+form, before+form+"1", form+before)
		}
	}
	for _, place := range around[3:] {
		for _, form := range []string{"(define x 1)", "(define)", "(define x)", "(define 1 2 3)"} {
			checkOutside(t, strings.ReplaceAll(place, "%", form))
		}
	}
	checkCode(t, "(define define 1) (define define 2)", "[0] const0 setglobal0 const1 setglobal0 void return")
	checkCode(t, "(define define define)", "[0] global0 setglobal0 void return")
	checkCode(t, "(begin (define 2)) (define define 1)", "[0] global0 const0 call1 pop const1 setglobal0 void return")
	checkCode(t, "(define define 1) (define x (define 2 3 4))",
		"[0] const0 setglobal0 global0 const1 const2 const3 call3 setglobal1 void return")
	checkCode(t, "(define define 1) (begin (define) define)", "[0] const0 setglobal0 global0 call0 pop global0 return")
	checkCode(t, "(let ((define 1)) (define 2 3))", "[0] const0 local0 const1 const2 tail2")
	checkCode(t, "'(define)", "[0] const0 return")
	checkUnbound(t, "define", "define")
	checkUnbound(t, "(begin define)", "define")
	checkUnbound(t, "(lambda (define) (define x 1))", "x")
	checkUnbound(t, "(define define 1) (begin (define x 1))", "x")
	checkUnbound(t, "(define x define)", "define")
}

func TestCompilePrimitivesWithOtherCounts(t *testing.T) {
	for n, name := range primitiveNames {
		for count := range 5 {
			if count != primitiveArgs[n] {
				checkOutsideAnywhere(t, "("+name+strings.Repeat(" 1", count)+")")
				checkOutside(t, "("+name+strings.Repeat(" x", count)+") x")
			}
		}
	}
}

// itself answers, for each word and primitive, a form that has it as its own
// argument wherever it can, and whether it is unbound there.
func itself() map[string]bool {
	forms := map[string]bool{"(quote quote)": false, "(if if if if)": true, "(lambda (lambda) lambda)": false, "(let ((let let)) let)": true,
		"(letrec ((letrec letrec)) letrec)": false, "(set! set! set!)": true, "(begin begin begin)": true, "(and and)": true, "(or or or)": true,
		"(define define define)": false}
	for n, name := range primitiveNames {
		forms["("+name+strings.Repeat(" "+name, primitiveArgs[n])+")"] = true
	}
	return forms
}

func TestCompileWordsAsVariables(t *testing.T) {
	for form, unbound := range itself() {
		word := strings.Fields(form)[0][1:]
		if unbound {
			checkUnbound(t, form, word)
		} else {
			compiled(t, form)
		}
	}
	for _, word := range append(slices.Clone(specialWords), primitiveNames...) {
		fill := func(src string) string { return strings.ReplaceAll(src, "%", word) }
		checkUnbound(t, word, word)
		checkUnbound(t, fill("(1 %)"), word)
		checkUnbound(t, fill("(lambda (a) %)"), word)
		checkCode(t, fill("'%"), "[0] const0 return")
		checkCode(t, fill("(define % 1) %"), "[0] const0 setglobal0 global0 return")
		checkCode(t, fill("((%) (% %)) (define % 1)"),
			"[0] global0 call0 global0 global0 call1 call1 pop const0 setglobal0 void return")
		checkCode(t, fill("(lambda (%) % (%) (% % % % %))"),
			"[0] closure1/0 return [1] local0 pop local0 call0 pop local0 local0 local0 local0 local0 tail4")
		checkCode(t, fill("(let ((% 1)) (%))"), "[0] const0 local0 tail0")
		checkCode(t, fill("(letrec ((% 1)) (% 2))"), "[0] box1 local0 const0 setbox local0 unbox const1 tail1")
		if word != "lambda" && word != "set!" {
			checkCode(t, fill("(lambda (%) (set! % (% 1)))"),
				"[0] closure1/0 return [1] local0 box0 local1 local1 unbox const0 call1 setbox void return")
		}
		checkUnbound(t, fill("(let ((% (1 %))) 2)"), word)
	}
}

func TestCompileUnbound(t *testing.T) {
	for _, place := range around {
		checkUnbound(t, strings.ReplaceAll(place, "%", "q"), "q")
		checkUnbound(t, strings.ReplaceAll(place, "%", "(q 1)"), "q")
		checkUnbound(t, strings.ReplaceAll(place, "%", "(set! q 1)"), "q")
		checkUnbound(t, strings.ReplaceAll(place, "%", "(set! q p)"), "p", "q")
		checkUnbound(t, strings.ReplaceAll(place, "%", "(lambda (b) (q b p))"), "p", "q")
	}
	checkUnbound(t, "x", "x")
	checkUnbound(t, "x x (lambda (x) x) x", "x")
	checkUnbound(t, "(f x y)", "f", "x", "y")
	checkUnbound(t, "b a ab B aa b + a- - _ z ~ !", "!", "+", "-", "B", "_", "a", "a-", "aa", "ab", "b", "z", "~")
	checkUnbound(t, "(let ((x 1) (y x)) y)", "x")
	checkUnbound(t, "(let ((x x)) x)", "x")
	checkUnbound(t, "(let ((x 1)) x) x", "x")
	checkUnbound(t, "((lambda (x) x) x)", "x")
	checkUnbound(t, "(letrec ((x y) (y x)) z)", "z")
	checkUnbound(t, "(letrec ((x 1)) x) x", "x")
	checkUnbound(t, "(set! car 1)", "car")
	checkUnbound(t, "(define x y)", "y")
	checkUnbound(t, "(define quote 1) '(a b)", "a", "b")
	long := strings.Repeat("s", impl.MaxSymbol)
	checkUnbound(t, long+" "+long[1:], long[1:], long)
	compiled(t, "(letrec ((x y) (y x)) x)")
	compiled(t, "(define f (lambda () g)) (define g f)")
	compiled(t, "'(x y z) 'x")
}

func TestCompileWhichCodeIsAhead(t *testing.T) {
	many := "(1" + strings.Repeat(" 1", impl.MaxParams+1) + ")"
	functions := strings.Repeat("(lambda () 1)", impl.MaxFuncs)
	checkOutside(t, "x ()", "() x", "(x ())", "(lambda (y) x (if))", "(x (quote))", "(set! x)", "(define y x) (define)")
	checkOutside(t, many+"()", "()"+many, functions+"()", many+"x ()")
	checkUnbound(t, many+"x", "x")
	checkUnbound(t, "x"+many, "x")
	checkUnbound(t, functions+"x", "x")
	checkUnbound(t, strings.Replace(many, "1", "f", 1), "f")
	checkUnbound(t, strings.ReplaceAll(many, "1)", "x)"), "x")
}
