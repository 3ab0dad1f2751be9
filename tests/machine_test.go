package tests

import (
	"fmt"
	"math"
	"slices"
	"strings"
	"testing"

	"loop.example/s01541/impl"
)

func shown(o impl.Outcome) string {
	return fmt.Sprintf("code %d, text %.120q, %d steps, %d frames, %d collections", o.Code, o.Text, o.Steps, o.Frames, o.Collects)
}

// ended answers an outcome with a code, and of one that is CodeOK the text.
func ended(code int, text string, steps, frames, collects int) impl.Outcome {
	return impl.Outcome{Code: code, Text: []byte(text), Steps: steps, Frames: frames, Collects: collects}
}

func checkOutcome(t *testing.T, what string, got, want impl.Outcome) {
	t.Helper()
	if !sameOutcome(got, want) {
		t.Errorf("%.200s: %s, want %s", what, shown(got), shown(want))
	}
}

// checkRun compiles a source and runs it with heap and fuel enough.
func checkRun(t *testing.T, src string, code int, text string) {
	t.Helper()
	o := impl.Run(compiled(t, src), impl.MaxHeap, impl.MaxFuel, nil)
	if o.Code != code || string(o.Text) != text {
		t.Errorf("%.200q: %s, want code %d, text %q", src, shown(o), code, text)
	}
}

func checkValue(t *testing.T, src, text string) {
	t.Helper()
	checkRun(t, src, impl.CodeOK, text)
}

// checkMain runs a main function that is made by hand.
func checkMain(t *testing.T, what string, want impl.Outcome, code ...impl.Ins) {
	t.Helper()
	checkOutcome(t, what, impl.Run(mainOf(code...), impl.MaxHeap, impl.MaxFuel, nil), want)
}

func TestRunRefuses(t *testing.T) {
	safe, unsafe := mainOf(insVoid, insReturn), mainOf(insReturn)
	later := moduleOf([]impl.Ins{insVoid, insReturn}, ending(0), function(1, nil, insPop))
	bad := []impl.Module{{}, moduleOf(nil), mainOf(ins(18)), mainOf(ins(-1)), mainOf(ins(impl.InsConst, 5), insReturn), mainOf(insReturn, insJump(2)),
		moduleOf([]impl.Ins{insReturn}, function(21, nil, insVoid, insReturn)), withConsts(nil), withConsts(row(num(1), num(2)))}
	modules := append([]impl.Module{safe, unsafe, later}, bad...)
	long := make([]int, impl.MaxFuel+1)
	for n, m := range modules {
		what := fmt.Sprintf("module %d", n)
		for _, size := range []int{-1, math.MinInt, math.MaxInt} {
			checkOutcome(t, what+", heap", impl.Run(m, size, 1, nil), impl.Outcome{Code: impl.CodeBad})
			checkOutcome(t, what+", fuel", impl.Run(m, 1, size, nil), impl.Outcome{Code: impl.CodeBad})
		}
		checkOutcome(t, what+", heap", impl.Run(m, impl.MaxHeap+1, 1, nil), impl.Outcome{Code: impl.CodeBad})
		checkOutcome(t, what+", fuel", impl.Run(m, 1, impl.MaxFuel+1, nil), impl.Outcome{Code: impl.CodeBad})
		checkOutcome(t, what+", forced", impl.Run(m, 1, 1, long), impl.Outcome{Code: impl.CodeBad})
		checkOutcome(t, what+", forced without fuel", impl.Run(m, 0, 0, long), impl.Outcome{Code: impl.CodeBad})
	}
	for _, heap := range []int{0, 6, impl.MaxHeap} {
		for _, fuel := range []int{0, 1, impl.MaxFuel} {
			for _, forced := range [][]int{nil, {0}, long[1:]} {
				for _, m := range bad {
					checkOutcome(t, "not well-formed", impl.Run(m, heap, fuel, forced), impl.Outcome{Code: impl.CodeBad})
				}
				checkOutcome(t, "not safe", impl.Run(unsafe, heap, fuel, forced), impl.Outcome{Code: impl.CodeUnsafe})
				checkOutcome(t, "not safe later", impl.Run(later, heap, fuel, forced), impl.Outcome{Code: impl.CodeUnsafe})
			}
		}
	}
}

func TestRunTakesItsBounds(t *testing.T) {
	m := impl.Module{Funcs: []impl.Func{ending(0)}}
	most := make([]int, impl.MaxFuel)
	for _, heap := range []int{0, impl.MaxHeap} {
		checkOutcome(t, "no fuel", impl.Run(m, heap, 0, most), ended(impl.CodeFuel, "", 0, 1, 0))
		checkOutcome(t, "most fuel", impl.Run(m, heap, impl.MaxFuel, most), ended(impl.CodeOK, "#void", 2, 1, 1))
	}
	loop := mainOf(insJump(0))
	for _, fuel := range []int{0, 1, impl.MaxFuel - 1, impl.MaxFuel} {
		checkOutcome(t, "a loop", impl.Run(loop, 6, fuel, nil), ended(impl.CodeFuel, "", fuel, 1, 0))
	}
	for n := range most {
		most[n] = impl.MaxFuel - 1 - n
	}
	checkOutcome(t, "all forced", impl.Run(loop, 6, impl.MaxFuel, most), ended(impl.CodeFuel, "", impl.MaxFuel, 1, impl.MaxFuel))
}

func TestRunForcedCollections(t *testing.T) {
	m := compiled(t, "(+ 1 (+ 2 3))") // six instructions
	for want, lists := range map[int][][]int{
		0: {nil, {}, {6}, {7, 100, impl.MaxFuel}, {-1}, {math.MinInt, math.MaxInt}, {-6, -5, -4}},
		1: {{0}, {1}, {5}, {5, 6}, {3, 3, 3}, {0, 0}, {-1, 2, 99}},
		2: {{0, 5}, {5, 0}, {5, 0, 5, 99, -1}, {4, 3, 4, 3}},
		6: {{0, 1, 2, 3, 4, 5}, {6, 5, 4, 3, 2, 1, 0, -1}},
	} {
		for _, forced := range lists {
			checkOutcome(t, fmt.Sprintf("forced %v", forced), impl.Run(m, 0, 100, forced), ended(impl.CodeOK, "6", 6, 1, want))
		}
	}
	// The fuel is asked for ahead of a collection.
	for fuel := range 6 {
		got := impl.Run(m, 0, fuel, []int{fuel})
		checkOutcome(t, "forced behind the fuel", got, ended(impl.CodeFuel, "", fuel, 1, 0))
		got = impl.Run(m, 0, fuel, []int{0, 1, 2, 3, 4, 5, 6})
		checkOutcome(t, "all forced", got, ended(impl.CodeFuel, "", fuel, 1, fuel))
	}
}

func TestRunFuelAroundTheEnd(t *testing.T) {
	deep := "(define f (lambda (n) (if (= n 0) 0 (+ 1 (f (- n 1)))))) (f 3)"
	for _, src := range []string{"1", "(+ 1 2)", "(car 1)", "(quotient 1 0)", "(1)", "((lambda () 1) 2)", "(define x x)", deep, "(cons 1 (vector-ref (make-vector 1 5) 1))"} {
		m := compiled(t, src)
		whole := impl.Run(m, 100, impl.MaxFuel, nil)
		for fuel := range whole.Steps + 3 {
			got := impl.Run(m, 100, fuel, nil)
			if fuel >= whole.Steps {
				checkOutcome(t, src, got, whole)
			} else if got.Code != impl.CodeFuel || got.Steps != fuel || len(got.Text) != 0 || got.Frames < 1 || got.Frames > whole.Frames {
				t.Errorf("%q with fuel %d: %s", src, fuel, shown(got))
			}
		}
	}
	checkOutcome(t, "no fuel", impl.Run(compiled(t, "1"), 0, 0, []int{0}), ended(impl.CodeFuel, "", 0, 1, 0))
}

func TestRunStepsOfEachCode(t *testing.T) {
	endless := "(define f (lambda () (+ 1 (f)))) "
	for _, c := range []struct {
		src  string
		heap int
		want impl.Outcome
	}{
		{"", 0, ended(impl.CodeOK, "#void", 2, 1, 0)},
		{"1 2 3", 0, ended(impl.CodeOK, "3", 6, 1, 0)},
		{"(car 1)", 0, ended(impl.CodeType, "", 2, 1, 0)},
		{"(1 2)", 0, ended(impl.CodeType, "", 3, 1, 0)},
		{"((lambda () 1) 2)", 2, ended(impl.CodeArity, "", 3, 1, 0)},
		{"(+ 0 ((lambda (x) 1)))", 2, ended(impl.CodeArity, "", 3, 1, 0)},
		{"(make-vector -1 0)", 0, ended(impl.CodeIndex, "", 3, 1, 0)},
		{"(vector-ref (make-vector 0 0) 0)", 1, ended(impl.CodeIndex, "", 5, 1, 0)},
		{"(quotient 1 0)", 0, ended(impl.CodeZero, "", 3, 1, 0)},
		{"(+ 1 " + greatest + ")", 0, ended(impl.CodeOverflow, "", 3, 1, 0)},
		{"(define x x)", 0, ended(impl.CodeUnset, "", 1, 1, 0)},
		{"(letrec ((x x)) 1)", 2, ended(impl.CodeUnset, "", 4, 1, 0)},
		{"(cons 1 2)", 2, ended(impl.CodeMemory, "", 3, 1, 1)},
		{"'(1 2)", 5, ended(impl.CodeMemory, "", 0, 0, 0)},
		{"(define f (lambda () (f))) (f)", 2, ended(impl.CodeFuel, "", impl.MaxFuel, 1, 0)},
		{endless + "(f)", 2, ended(impl.CodeLimit, "", 4+3*impl.MaxDepth, impl.MaxDepth, 0)},
		{endless + "(+ 0 (f))", 2, ended(impl.CodeLimit, "", 5+3*(impl.MaxDepth-1), impl.MaxDepth, 0)},
		{"((lambda (x) ((lambda (y) (car y)) x)) 5)", 4, ended(impl.CodeType, "", 8, 1, 0)},
		{"(+ 1 ((lambda (x) (+ 1 ((lambda (y) (car y)) x))) 5))", 4, ended(impl.CodeType, "", 10, 3, 0)},
	} {
		checkOutcome(t, c.src, impl.Run(compiled(t, c.src), c.heap, impl.MaxFuel, nil), c.want)
	}
}

func TestRunValuesAreShown(t *testing.T) {
	for src, text := range map[string]string{
		"5": "5", "-5": "-5", greatest: greatest, least: least, "#t": "#t", "#f": "#f", "'()": "()", "'a": "a", "'(a (b) ())": "(a (b) ())",
		"(cons 1 2)": "(1 . 2)", "(cons 1 '(2 x))": "(1 2 x)", "(cons 'x (cons 'y 'x))": "(x y . x)", "(cons '() '())": "(())",
		"(lambda (x) x)": "#proc", "(make-vector 3 'a)": "#(a a a)", "(make-vector 0 1)": "#()", "(make-vector 1 (lambda () 1))": "#(#proc)",
		"(if #f 1)": "#void", "(set! x 1) (define x 2)": "#void",
		"''a": "(quote a)", "'sym0": "sym0", "(cons 'b 'a)": "(b . a)", "(let ((v (make-vector 2 0))) (vector-set! v 0 '(1)) (cons v v))": "(#((1) 0) . #((1) 0))",
	} {
		checkValue(t, src, text)
	}
	// A symbol has one name, wherever the constants have it.
	checkValue(t, "(define l '(a b c)) (cons (eq? (car (cdr l)) 'b) (cons 'c 'zz))", "(#t c . zz)")
	m := impl.Module{Consts: [][]impl.Datum{row(sym("x")), row(list(2), sym("y"), sym("x")), row(sym("x"))}, Funcs: []impl.Func{function(0, nil,
		ins(impl.InsConst, 0), ins(impl.InsConst, 2), insPrim(impl.PrimEq), ins(impl.InsConst, 1), insPrim(impl.PrimCons), insReturn)}}
	checkOutcome(t, "one symbol in two constants", impl.Run(m, 9, 10, nil), ended(impl.CodeOK, "(#t y x)", 6, 1, 0))
	checkValue(t, "'"+strings.Repeat("n", 100), strings.Repeat("n", 100))
}

func TestRunLongValuesAreCut(t *testing.T) {
	// A list of numbers of one byte has two bytes for each, and one more.
	for _, count := range []int{498, 499, 500, 501, 1000} {
		whole := "(" + strings.TrimSpace(strings.Repeat("7 ", count)) + ")"
		checkValue(t, "'"+whole, whole[:min(len(whole), impl.MaxShow)])
	}
	for _, size := range []int{998, 999, 1000, 1001, 1002} {
		// Nine symbols of 100 bytes, one that fills up, and what stands around.
		last := strings.Repeat("z", size-9*101-2)
		whole := "(" + strings.Repeat(strings.Repeat("x", 100)+" ", 9) + last + ")"
		checkValue(t, "'"+whole, whole[:min(len(whole), impl.MaxShow)])
	}
	checkValue(t, "(make-vector 1000 (make-vector 0 0))", ("#(" + strings.Repeat("#() ", 250))[:impl.MaxShow])
	// What reaches itself is endless.
	checkValue(t, "(let ((v (make-vector 1 0))) (vector-set! v 0 v) v)", strings.Repeat("#(", 500))
	checkValue(t, "(let ((v (make-vector 2 0))) (vector-set! v 1 v) v)", strings.Repeat("#(0 ", 250))
	checkValue(t, "(let ((v (make-vector 1 0))) (vector-set! v 0 (cons v v)) (cons 1 v))", "(1 . "+strings.Repeat("#((", 332)[:995])
	grown := "(define f (lambda (n l) (if (= n 0) l (f (- n 1) (cons l l))))) "
	checkRun(t, grown+"(f 3 1)", impl.CodeOK, "(((1 . 1) 1 . 1) (1 . 1) 1 . 1)")
	o := impl.Run(compiled(t, grown+"(f 900 1)"), impl.MaxHeap, impl.MaxFuel, nil)
	if o.Code != impl.CodeOK || !strings.HasPrefix(string(o.Text), strings.Repeat("(", 900)+"(1 . 1)"[1:]) || len(o.Text) != impl.MaxShow {
		t.Errorf("a value of very many pairs: %s", shown(o))
	}
}

func TestRunJumpFalse(t *testing.T) {
	for kind, made := range kindMakers() {
		if kind == 'a' {
			continue
		}
		code := slices.Concat(made, []impl.Ins{insFalse(len(made) + 3), insInt, insReturn, ins(impl.InsConst, constSymbol), insReturn})
		want := "7"
		if kind == 'b' {
			want = "s"
		}
		o := impl.Run(moduleOf(code, ending(0)), 100, 100, nil)
		if o.Code != impl.CodeOK || string(o.Text) != want || o.Steps != len(made)+3 {
			t.Errorf("a condition of kind %c: %s, want %q", kind, shown(o), want)
		}
	}
	for src, text := range map[string]string{
		"(if #t 1 2)": "1", "(if #f 1 2)": "2", "(if '() 1 2)": "1", "(if 0 1 2)": "1", "(if 'f 1 2)": "1", "(if (if #f #f) 1 2)": "1",
		"(and)": "#t", "(or)": "#f", "(and 1 2)": "2", "(and #f 2)": "#f", "(or 1 2)": "1", "(or #f '())": "()", "(and 1 #f 2)": "#f", "(or #f #f)": "#f",
		"(cons (and 1 2 3) (or #f 4 5))": "(3 . 4)", "(let ((x 5)) (or #f (and x (or #f x))))": "5",
	} {
		checkValue(t, src, text)
	}
	checkMain(t, "the condition is taken", ended(impl.CodeOK, "s", 4, 1, 0), ins(impl.InsConst, constSymbol), insBool, insFalse(3), insReturn)
	checkMain(t, "the condition is taken, no jump", ended(impl.CodeOK, "s", 4, 1, 0), ins(impl.InsConst, constSymbol), insInt, insFalse(3), insReturn)
}

func TestRunVariablesWithoutValue(t *testing.T) {
	for _, src := range []string{"(define x x)", "(define a b) (define b 1)", "(letrec ((a b) (b 1)) a)", "(letrec ((a (f)) (f (lambda () 1))) a)",
		"(define f (lambda () x)) (f) (define x 1)", "(letrec ((f (lambda () y)) (x (f)) (y 1)) x)", "x (define x 1)", "(set! y x) (define x 1) (define y 2)"} {
		checkRun(t, src, impl.CodeUnset, "")
	}
	for src, text := range map[string]string{
		"(set! x 5) (define y x) (define x 1) (cons x y)":                 "(1 . 5)",
		"(letrec ((a 1) (b a)) (cons a b))":                               "(1 . 1)",
		"(letrec ((f (lambda () y)) (y 1)) (f))":                          "1",
		"(define f (lambda () x)) (define x 1) (f)":                       "1",
		"(letrec ((a (begin (set! b 7) b)) (b (cons b b))) (cons a b))":   "(7 7 . 7)",
		"(define x 1) (define x (+ x 1)) (define x (+ x 1)) x":            "3",
		"(if #f x 1) (define x 1)":                                        "#void",
		"(define x (if #f #f)) x":                                         "#void",
		"(define x #f) (define y '()) (cons x y)":                         "(#f)",
		"(letrec ((x (lambda () x))) (eq? x (x)))":                        "#t",
		"(define a 1) (define b 2) (set! a b) (set! b 3) (cons a b)":      "(2 . 3)",
		"(define f (lambda (g) (set! g (+ g 1)) g)) (cons (f 1) (f 5))":   "(2 . 6)",
		"(let ((x 1)) (let ((f (lambda () x))) (set! x 2) (cons (f) x)))": "(2 . 2)",
		"(let ((x 1) (y 2)) (set! x y) (set! y 9) (cons x y))":            "(2 . 9)",
		"(define mk (lambda (n) (lambda () (set! n (+ n 1)) n))) (define a (mk 0)) (define b (mk 10)) (a) (a) (cons (a) (b))": "(3 . 11)",
	} {
		checkValue(t, src, text)
	}
	checkMain(t, "a global", ended(impl.CodeUnset, "", 1, 1, 0), ins(impl.InsGlobal, 1), insReturn)
	checkMain(t, "another global is set", ended(impl.CodeUnset, "", 3, 1, 0), insInt, ins(impl.InsSetGlobal, 0), ins(impl.InsGlobal, 1), insReturn)
	checkMain(t, "a global that is set", ended(impl.CodeOK, "7", 4, 1, 0), insInt, ins(impl.InsSetGlobal, 1), ins(impl.InsGlobal, 1), insReturn)
	checkMain(t, "an empty box", ended(impl.CodeUnset, "", 2, 1, 0), insEmpty, insUnbox, insReturn)
	checkMain(t, "a box that is set", ended(impl.CodeOK, "7", 6, 1, 0), insEmpty, insLocal(0), insInt, insSetBox, insUnbox, insReturn)
	checkMain(t, "a box with a value", ended(impl.CodeOK, "#f", 4, 1, 0), insBool, insWrap, insUnbox, insReturn)
}

func TestRunSlots(t *testing.T) {
	symbol, nothing := ins(impl.InsConst, constSymbol), ins(impl.InsConst, constNil)
	checkMain(t, "slide 0", ended(impl.CodeOK, "(7 . s)", 5, 1, 0), insInt, symbol, insSlide(0), insPrim(impl.PrimCons), insReturn)
	checkMain(t, "slide 1", ended(impl.CodeOK, "(7 . s)", 6, 1, 0), insInt, nothing, symbol, insSlide(1), insPrim(impl.PrimCons), insReturn)
	checkMain(t, "slide 2", ended(impl.CodeOK, "(7 . s)", 7, 1, 0), insInt, nothing, insEmpty, symbol, insSlide(2), insPrim(impl.PrimCons), insReturn)
	most := slices.Concat(times(impl.MaxStack-1, insEmpty), []impl.Ins{insInt, insSlide(impl.MaxStack - 1), symbol, insPrim(impl.PrimCons), insReturn})
	checkMain(t, "slide of all", ended(impl.CodeOK, "(7 . s)", len(most), 1, 0), most...)
	checkMain(t, "pop", ended(impl.CodeOK, "7", 6, 1, 0), insInt, symbol, insPop, insEmpty, insPop, insReturn)
	checkMain(t, "local", ended(impl.CodeOK, "(s . 7)", 6, 1, 0), insInt, symbol, insLocal(1), insLocal(0), insPrim(impl.PrimCons), insReturn)
	checkMain(t, "local of itself", ended(impl.CodeOK, "(s . s)", 5, 1, 0), insInt, symbol, insLocal(1), insPrim(impl.PrimCons), insReturn)
	checkMain(t, "what lies below is not returned", ended(impl.CodeOK, "s", 4, 1, 0), insInt, insEmpty, symbol, insReturn)
	checkMain(t, "a jump back", ended(impl.CodeOK, "#f", 7, 1, 0), insJump(4), insBool, insLocal(0), insReturn, insInt, insPop, insJump(1))
	full := slices.Concat([]impl.Ins{insInt}, times(impl.MaxStack-1, symbol), times(impl.MaxStack-2, insPop), []impl.Ins{insPrim(impl.PrimCons), insReturn})
	checkMain(t, "all slots", ended(impl.CodeOK, "(7 . s)", len(full), 1, 0), full...)
	for src, text := range map[string]string{
		"(let ((x 1)) (let ((x 2) (y x)) (cons x y)))":                                                                              "(2 . 1)",
		"(let ((a 1) (b 2) (c 3)) (cons (let ((d 4)) (cons a d)) (cons b c)))":                                                      "((1 . 4) 2 . 3)",
		"(cons (begin 1 2 3) (begin 4))":                                                                                            "(3 . 4)",
		"((lambda (a b c d) (cons d (cons c (cons b a)))) 1 2 3 4)":                                                                 "(4 3 2 . 1)",
		"(((lambda (x) (lambda (y) (cons x y))) 1) 2)":                                                                              "(1 . 2)",
		"((((lambda (x) (lambda (y) (lambda (z) (cons x (cons y z))))) 1) 2) 3)":                                                    "(1 2 . 3)",
		"(let ((a 1) (b 2)) ((lambda (c) (cons b (cons a c))) 3))":                                                                  "(2 1 . 3)",
		"(cons ((lambda () 1)) (cons ((lambda (x) (+ x 1)) 5) ((lambda (a b) (- a b)) 9 2)))":                                       "(1 6 . 7)",
		"(let ((f (lambda (g x) (g (g x))))) (f (lambda (y) (* y y)) 3))":                                                           "81",
		"(define f (lambda (a b) (if (< a b) (- b a) (f b a)))) (cons (f 1 5) (f 5 1))":                                             "(4 . 4)",
		"(letrec ((e (lambda (n) (if (= n 0) #t (o (- n 1))))) (o (lambda (n) (if (= n 0) #f (e (- n 1)))))) (cons (e 10) (o 10)))": "(#t . #f)",
	} {
		checkValue(t, src, text)
	}
}

func TestRunCapturedValues(t *testing.T) {
	free := make([]bool, impl.MaxFree)
	var code, sum []impl.Ins
	m := impl.Module{}
	for n := range free {
		free[n] = n%3 == 0
		m.Consts = append(m.Consts, row(num(1<<n)))
		code = append(code, ins(impl.InsConst, n))
		sum = append(sum, ins(impl.InsFree, n))
		if free[n] {
			code, sum = append(code, insWrap), append(sum, insUnbox)
		}
		if n > 0 {
			sum = append(sum, insPrim(impl.PrimAdd))
		}
	}
	code = append(code, ins(impl.InsClosure, 1, impl.MaxFree), ins(impl.InsTail, 0))
	for n := range free {
		one := slices.Concat([]impl.Ins{ins(impl.InsFree, n)}, times(map[bool]int{true: 1}[free[n]], insUnbox), []impl.Ins{insReturn})
		m.Funcs = []impl.Func{function(0, nil, code...), function(0, free, one...)}
		if o := impl.Run(m, 100, 1000, nil); o.Code != impl.CodeOK || string(o.Text) != fmt.Sprint(1<<n) {
			t.Errorf("captured value %d: %s", n, shown(o))
		}
	}
	m.Funcs = []impl.Func{function(0, nil, code...), function(0, free, append(sum, insReturn)...)}
	if o := impl.Run(m, 100, 1000, nil); o.Code != impl.CodeOK || string(o.Text) != fmt.Sprint(1<<impl.MaxFree-1) {
		t.Errorf("all captured values: %s", shown(o))
	}
	// Two procedures share a box, not a value.
	checkValue(t, "(let ((n 0)) (let ((up (lambda () (set! n (+ n 1)))) (see (lambda () n))) (up) (up) (cons (see) n)))", "(2 . 2)")
	checkValue(t, "(define l (let ((x 1)) (let ((f (lambda () x))) (cons f (lambda (y) (set! x y)))))) ((cdr l) 9) ((car l))", "9")
}

func TestRunCallsAreChecked(t *testing.T) {
	for kind, made := range kindMakers() {
		if kind == 'a' {
			continue
		}
		for count := range impl.MaxParams + 1 {
			for params := range impl.MaxParams + 1 {
				want := impl.CodeOK
				if kind != 'f' {
					want = impl.CodeType
				} else if count != params {
					want = impl.CodeArity
				}
				call := slices.Concat(made, times(count, insInt), []impl.Ins{ins(impl.InsCall, count), insReturn})
				steps, frames := len(call)-1, 1
				text := ""
				if want == impl.CodeOK {
					steps, frames, text = len(call)+2, 2, "#void"
				}
				checkOutcome(t, "call", impl.Run(moduleOf(call, ending(params)), 100, 100, nil), ended(want, text, steps, frames, 0))
				tail := append(slices.Clone(call[:len(call)-2]), ins(impl.InsTail, count))
				if want == impl.CodeOK {
					steps = len(tail) + 2
				}
				checkOutcome(t, "tail call", impl.Run(moduleOf(tail, ending(params)), 100, 100, nil), ended(want, text, steps, 1, 0))
			}
		}
	}
}

func TestRunDepth(t *testing.T) {
	// f goes down n times and does something there, with n + 1 frames.
	down := func(n int, there string) string {
		return fmt.Sprintf("(define g (lambda (x) x)) (define f (lambda (n) (if (= n 0) %s (+ 1 (f (- n 1)))))) (f %d)", there, n)
	}
	last := impl.MaxDepth - 1
	for _, c := range []struct {
		n      int
		there  string
		code   int
		text   string
		frames int
	}{
		{last - 1, "0", impl.CodeOK, fmt.Sprint(last - 1), impl.MaxDepth - 1},
		{last, "0", impl.CodeOK, fmt.Sprint(last), impl.MaxDepth},
		{last + 1, "0", impl.CodeLimit, "", impl.MaxDepth},
		{last - 1, "(+ 0 (g 5))", impl.CodeOK, fmt.Sprint(last + 4), impl.MaxDepth},
		{last, "(+ 0 (g 5))", impl.CodeLimit, "", impl.MaxDepth},
		{last, "(g 5)", impl.CodeOK, fmt.Sprint(last + 5), impl.MaxDepth},
		{last, "(+ 0 (5 5))", impl.CodeType, "", impl.MaxDepth},
		{last, "(+ 0 (g))", impl.CodeArity, "", impl.MaxDepth},
		{last, "(5 5)", impl.CodeType, "", impl.MaxDepth},
		{last, "(g 5 5)", impl.CodeArity, "", impl.MaxDepth},
		{last, "(begin (set! f (lambda (n) (if (= n 0) 1 (f (- n 1))))) (f 5000))", impl.CodeOK, fmt.Sprint(last + 1), impl.MaxDepth},
	} {
		o := impl.Run(compiled(t, down(c.n, c.there)), 100, impl.MaxFuel, nil)
		if o.Code != c.code || string(o.Text) != c.text || o.Frames != c.frames {
			t.Errorf("%s with %d frames: %s, want code %d, %q", c.there, c.n+1, shown(o), c.code, c.text)
		}
	}
}

func TestRunFrames(t *testing.T) {
	for src, frames := range map[string]int{
		"1": 1, "((lambda () 1))": 1, "(+ 1 ((lambda () 1)))": 2, "(begin ((lambda () 1)) ((lambda () 2)))": 2, "((lambda () ((lambda () 1)) ((lambda () 2))))": 2,
		"(define f (lambda (n) (if (= n 0) 0 (+ 1 (f (- n 1)))))) (f 9)":                       10,
		"(define f (lambda (n) (if (= n 0) 0 (+ 1 (f (- n 1)))))) (f 9) (f 3)":                 11,
		"(define f (lambda (n) (if (= n 0) 0 (+ 1 (f (- n 1)))))) (+ (f 3) (f 7))":             9,
		"(define f (lambda (n) (if (= n 0) 0 (f (- n 1))))) (f 9)":                             1,
		"(define f (lambda (n) (if (= n 0) 0 (f (- n 1))))) (+ 0 (f 9))":                       2,
		"(define f (lambda (n) (if (< n 2) n (+ (f (- n 1)) (f (- n 2)))))) (f 10)":            10,
		"((lambda (f) (f f 5)) (lambda (f n) (if (= n 0) 'end (f f (- n 1)))))":                1,
		"(let ((x ((lambda () 1)))) (letrec ((y ((lambda () 2)))) (+ x y)))":                   2,
		"(define f (lambda () (g))) (define g (lambda () (h))) (define h (lambda () 1)) (f) 1": 2,
	} {
		m := compiled(t, src)
		if o := impl.Run(m, 1000, impl.MaxFuel, nil); o.Code != impl.CodeOK || o.Frames != frames {
			t.Errorf("%q: %s, want %d frames", src, shown(o), frames)
		}
	}
}

// tailForms are all forms that have a tail position, around %.
var tailForms = []string{
	"%", "(if #t %)", "(if #f 1 %)", "(if n % 1)", "(if '() (if #f 1 %) 2)", "(let () %)", "(let ((x 1) (y n)) % )", "(let ((x 1)) (set! x 2) %)",
	"(letrec () %)", "(letrec ((x 1)) %)", "(letrec ((h (lambda () n))) (h) %)", "(begin %)", "(begin 1 2 %)", "(and %)", "(and 1 n %)", "(or %)", "(or #f %)",
	"(or #f #f %)", "((lambda () %))", "((lambda (x y) x %) 1 2)", "(let ((x (cons 1 2))) (or (begin #f) (and x (if x (begin x (letrec ((y x)) %))))))",
}

func TestRunTailLoopsKeepTheirFrames(t *testing.T) {
	for _, form := range tailForms {
		form = strings.ReplaceAll(form, "%", "(loop (- n 1))")
		for _, around := range []string{"(loop %d)", "(+ 0 (loop %d))", "(let ((f (lambda () (+ 0 (loop %d))))) (+ 0 (f)))"} {
			src := "(define loop (lambda (n) (if (= n 0) 0 " + form + "))) " + around
			frames := 0
			for _, n := range []int{1, 2, 3, 10, 100, 3000} {
				o := impl.Run(compiled(t, fmt.Sprintf(src, n)), 200, impl.MaxFuel, nil)
				if frames == 0 {
					frames = o.Frames
				}
				if o.Code != impl.CodeOK || string(o.Text) != "0" || o.Frames != frames || frames > 4 {
					t.Errorf("%s, %d times: %s, want %d frames", src, n, shown(o), frames)
				}
			}
		}
	}
	// Without an end, by a circle of two.
	for _, form := range tailForms {
		src := "(define loop (lambda (n) " + strings.ReplaceAll(form, "%", "(next (- n 1))") + ")) (define next (lambda (n) (loop n))) (loop 5)"
		o := impl.Run(compiled(t, src), 200, impl.MaxFuel, nil)
		if o.Code != impl.CodeFuel || o.Frames > 2 || o.Steps != impl.MaxFuel {
			t.Errorf("%s: %s", src, shown(o))
		}
	}
	m := moduleOf([]impl.Ins{ins(impl.InsClosure, 1, 0), insLocal(0), ins(impl.InsTail, 1)}, function(1, nil, times(150, insInt)...))
	m.Funcs[1].Code = append(m.Funcs[1].Code, insLocal(0), insLocal(0), ins(impl.InsTail, 1))
	for _, fuel := range []int{10, 1000, impl.MaxFuel} {
		checkOutcome(t, "a procedure that is given itself", impl.Run(m, 8, fuel, nil), ended(impl.CodeFuel, "", fuel, 1, 0))
	}
}
