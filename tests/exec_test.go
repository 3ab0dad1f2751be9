package tests

import (
	"fmt"
	"math"
	"strings"
	"testing"

	"loop.example/s01541/impl"
)

// checkExec runs a source with heap and fuel enough.
func checkExec(t *testing.T, what, src string, want impl.Report) {
	t.Helper()
	checkReport(t, what, impl.Exec([]byte(src), impl.MaxHeap, impl.MaxFuel), want)
}

// checkText asks for a value alone.
func checkText(t *testing.T, what, src, text string) {
	t.Helper()
	if r := impl.Exec([]byte(src), impl.MaxHeap, impl.MaxFuel); r.Code != impl.CodeOK || string(r.Text) != text || r.At != 0 {
		t.Errorf("%s: %s, want %q", what, told(r), text)
	}
}

// checkCodeOf asks for a code, and that the run was not begun.
func checkCodeOf(t *testing.T, what, src string, code int) {
	t.Helper()
	checkExec(t, what, src, impl.Report{Code: code})
}

func TestExecBounds(t *testing.T) {
	faults := []string{"", "(cons 1 2)", "(", ")", "1a", "x", "(if)", "(f (if)) )", strings.Repeat("(lambda () 1)", 200), strings.Repeat(" ", 4001), "(car 1)", "\x00"}
	for _, src := range faults {
		for _, size := range []int{-1, math.MinInt, math.MaxInt} {
			checkReport(t, src, impl.Exec([]byte(src), size, 100), impl.Report{Code: impl.CodeBad})
			checkReport(t, src, impl.Exec([]byte(src), 100, size), impl.Report{Code: impl.CodeBad})
		}
		checkReport(t, src, impl.Exec([]byte(src), impl.MaxHeap+1, 0), impl.Report{Code: impl.CodeBad})
		checkReport(t, src, impl.Exec([]byte(src), 0, impl.MaxFuel+1), impl.Report{Code: impl.CodeBad})
		checkReport(t, src, impl.Exec([]byte(src), -1, -1), impl.Report{Code: impl.CodeBad})
	}
	checkReport(t, "nothing", impl.Exec([]byte("(cons 1 2)"), 0, 0), impl.Report{Code: impl.CodeFuel})
	checkReport(t, "no heap", impl.Exec([]byte("(cons 1 2)"), 0, impl.MaxFuel), impl.Report{Code: impl.CodeMemory, Steps: 3})
	checkReport(t, "no fuel", impl.Exec([]byte("(cons 1 2)"), impl.MaxHeap, 0), impl.Report{Code: impl.CodeFuel})
	checkReport(t, "the limits", impl.Exec([]byte("(cons 1 2)"), impl.MaxHeap, impl.MaxFuel), impl.Report{Text: []byte("(1 . 2)"), Steps: 4})
	checkReport(t, "nothing at all", impl.Exec(nil, 0, 0), impl.Report{Code: impl.CodeFuel})
	checkReport(t, "no source", impl.Exec(nil, 0, 2), impl.Report{Text: []byte("#void"), Steps: 2})
}

func TestExecFaultsOfRead(t *testing.T) {
	long := strings.Repeat("a", impl.MaxSymbol+1)
	for _, c := range []struct {
		src      string
		code, at int
	}{
		{")", impl.CodeSyntax, 0}, {"1a", impl.CodeSyntax, 0}, {".", impl.CodeSyntax, 0}, {"#", impl.CodeSyntax, 0}, {"\x80", impl.CodeSyntax, 0}, {"2305843009213693952", impl.CodeLimit, 0}, {long, impl.CodeLimit, 0},
		{"(1 2))", impl.CodeSyntax, 5}, {"(+ 1 2) )", impl.CodeSyntax, 8}, {"(+ 1 2)\n\n#", impl.CodeSyntax, 9}, {"1 2 ,", impl.CodeSyntax, 4}, {"(cons 1 '", impl.CodeSyntax, 9}, {"(')", impl.CodeSyntax, 2},
		{"(", impl.CodeSyntax, 1}, {"'", impl.CodeSyntax, 1}, {"(+ 1 2", impl.CodeSyntax, 6}, {"(+ 1 2 ; )", impl.CodeSyntax, 10}, {"1 #t#", impl.CodeSyntax, 2}, {"x#", impl.CodeSyntax, 1},
		{"(+ 1 -2305843009213693953)", impl.CodeLimit, 5}, {"x " + long, impl.CodeLimit, 2},
		// A fault of the reader comes ahead of one of the compiler, wherever it stands.
		{"(if) (", impl.CodeSyntax, 6}, {"(if) )", impl.CodeSyntax, 5}, {"x 1a", impl.CodeSyntax, 2}, {"x 2305843009213693952", impl.CodeLimit, 2}, {"(define) " + long, impl.CodeLimit, 9}, {"(car 1) (quotient 1 0) (", impl.CodeSyntax, 24},
		{strings.Repeat("(lambda () 1)", 200) + ")", impl.CodeSyntax, 2600}, {strings.Repeat("'1", 1001), impl.CodeLimit, 0}, {strings.Repeat("(", 101) + strings.Repeat(")", 101), impl.CodeLimit, 0},
	} {
		for _, heap := range []int{0, impl.MaxHeap} {
			for _, fuel := range []int{0, impl.MaxFuel} {
				checkReport(t, c.src, impl.Exec([]byte(c.src), heap, fuel), impl.Report{Code: c.code, At: c.at})
			}
		}
	}
}

func TestExecSourceAtTheLimit(t *testing.T) {
	// filled has a form at its end, and so many bytes.
	filled := func(size int, form string) string { return strings.Repeat(" ", size-len(form)) + form }
	checkText(t, "the limit", filled(impl.MaxSource, "(+ 1 2)"), "3")
	checkText(t, "a comment", "7;"+strings.Repeat("(", impl.MaxSource-2), "7")
	checkText(t, "all of it", "'("+strings.Repeat("1 ", 1998)+" )", "("+strings.TrimSpace(strings.Repeat("1 ", 500))[:999])
	beyond := impl.Report{Code: impl.CodeLimit, At: impl.MaxSource}
	for _, form := range []string{"(+ 1 2)", "", ")", "(", "x", "(if)"} {
		checkExec(t, "one byte more", filled(impl.MaxSource+1, form), beyond)
		checkExec(t, "one byte more behind", form+strings.Repeat("\n", impl.MaxSource+1-len(form)), beyond)
	}
	checkExec(t, "many bytes more", strings.Repeat(")", 3*impl.MaxSource), beyond)
	checkExec(t, "the last byte", filled(impl.MaxSource, ")"), impl.Report{Code: impl.CodeSyntax, At: impl.MaxSource - 1})
	checkExec(t, "behind the last byte", filled(impl.MaxSource, "("), impl.Report{Code: impl.CodeSyntax, At: impl.MaxSource})
	checkExec(t, "the first byte", "."+strings.Repeat(" ", impl.MaxSource-1), impl.Report{Code: impl.CodeSyntax})
}

func TestExecFaultsOfCompile(t *testing.T) {
	for code, sources := range map[int][]string{
		impl.CodeSyntax: {"()", "(if)", " (if 1 2 3 4)", "(define)", "1 (define x)", "(lambda)", "(let ((x 1)))", "(+ 1)", "(car)", "(begin)", "(cons 1 (define x 1))", "(lambda (x x) 1)", "(if) x", "x (if)",
			"(car 1) (if)", "(quote)", "'1 (set! 1 2)", strings.Repeat("(lambda () 1)", 200) + "(if)", "(letrec (x) 1)"},
		impl.CodeUnbound: {"x", "(f 1)", "1 2 x", "(lambda (x) y)", "(set! x 1)", "car", "(let ((f car)) 1)", "(let ((x 1) (y x)) y)", "(car 1) x", "(define x y)", "(if #t 1 x)", "(else)",
			strings.Repeat("(lambda () 1)", 200) + "x", "((lambda (x) x) define)"},
	} {
		for _, src := range sources {
			for _, heap := range []int{0, impl.MaxHeap} {
				for _, fuel := range []int{0, impl.MaxFuel} {
					checkReport(t, src, impl.Exec([]byte(src), heap, fuel), impl.Report{Code: code})
				}
			}
		}
	}
}

// boxed is a program of so many instructions, which are three for each use of a
// boxed variable and two for each number.
func boxed(count int) string {
	numbers := (count - 1) % 3 * 2 % 3 // what is left over is a number or two
	return "(letrec((x 5))" + strings.Repeat("1 ", numbers) + strings.Repeat("x ", (count-4-2*numbers)/3) + ")"
}

// TestExecLimitsOfCompile: the greatest program that is run, and the next one.
func TestExecLimitsOfCompile(t *testing.T) {
	for what, c := range map[string]struct {
		limit  int
		source func(n int) string
		text   string
	}{
		"functions":  {impl.MaxFuncs - 1, func(n int) string { return strings.Repeat("(lambda () 1)", n) }, "#proc"},
		"parameters": {impl.MaxParams, func(n int) string { return "(lambda (" + numbered(n, "p% ") + ") p0)" }, "#proc"},
		"parameters and arguments": {impl.MaxParams, func(n int) string {
			return "((lambda (" + numbered(n, "p% ") + ") (cons p0 p19)) " + numbered(n, "% ") + ")"
		}, "(0 . 19)"},
		"boxed parameters": {impl.MaxParams, func(n int) string {
			return "((lambda (" + numbered(n, "p% ") + ") " + numbered(n, "(set! p% (+ p% 1)) ") + "(cons p0 p19)) " + numbered(n, "% ") + ")"
		}, "(1 . 20)"},
		"globals":   {impl.MaxGlobals, func(n int) string { return numbered(n, "(define g% %)") + "(cons g0 g199)" }, "(0 . 199)"},
		"constants": {impl.MaxConsts, func(n int) string { return numbered(n-1, "% ") + "'end" }, "end"},
		"captured values": {impl.MaxFree, func(n int) string {
			return "(let (" + numbered(n, "(v% %)") + ") ((lambda () " + numbered(n, "v% ") + "v49)))"
		}, "49"},
		"slots":        {impl.MaxStack - 1, func(n int) string { return "(let (" + numbered(n, "(v% %)") + ") v198)" }, "198"},
		"instructions": {impl.MaxCode, boxed, "5"},
	} {
		for _, n := range []int{c.limit, c.limit + 1} {
			if size := len(c.source(n)); size > impl.MaxSource {
				t.Errorf("%s: %d bytes", what, size)
			}
		}
		checkText(t, what, c.source(c.limit), c.text)
		checkCodeOf(t, what+", one more", c.source(c.limit+1), impl.CodeLimit)
		if r := impl.Boot(imageOf(c.source(c.limit)), impl.MaxHeap, impl.MaxFuel); string(r.Text) != c.text {
			t.Errorf("%s: Boot %s", what, told(r))
		}
	}
	for n := impl.MaxCode - 5; n <= impl.MaxCode; n++ {
		if got := len(compiled(t, boxed(n)).Funcs[0].Code); got != n {
			t.Errorf("%d instructions, want %d", got, n)
		}
	}
}

func TestExecLimitsOfRead(t *testing.T) {
	deep := func(n int) string { return strings.Repeat("(begin ", n) + "5" + strings.Repeat(")", n) }
	checkText(t, "lists within each other", deep(impl.MaxDeep), "5")
	checkCodeOf(t, "one more", deep(impl.MaxDeep+1), impl.CodeLimit)
	quoted := func(n int) string { return strings.Repeat("(", n) + strings.Repeat(")", n) }
	checkText(t, "a constant of lists within each other", "'"+quoted(impl.MaxDeep-1), quoted(impl.MaxDeep-1))
	checkCodeOf(t, "one more", "'"+quoted(impl.MaxDeep), impl.CodeLimit)
	checkText(t, "data", strings.Repeat("'1", impl.MaxData/3), "1")
	checkCodeOf(t, "one more", strings.Repeat("'1", impl.MaxData/3)+" 1", impl.CodeLimit)
	name := strings.Repeat("n", impl.MaxSymbol)
	checkText(t, "a symbol", "(define "+name+" '"+name+") "+name, name)
	checkExec(t, "one byte more", "(define "+name+"n 1)", impl.Report{Code: impl.CodeLimit, At: 8})
	checkText(t, "the greatest number", greatest, greatest)
	checkText(t, "the least number", least, least)
}

func TestExecVectorsAtTheLimit(t *testing.T) {
	checkText(t, "a vector", "(vector-length (make-vector 1000 0))", "1000")
	checkText(t, "a vector shown", "(make-vector 1000 7)", "#("+strings.Repeat("7 ", 499))
	for _, heap := range []int{0, impl.MaxHeap} {
		checkReport(t, "one more", impl.Exec([]byte("(make-vector 1001 0)"), heap, 10), impl.Report{Code: impl.CodeIndex, Steps: 3})
	}
	checkReport(t, "just fits", impl.Exec([]byte("(vector-ref (make-vector 1000 'a) 999)"), 1001, 10), impl.Report{Text: []byte("a"), Steps: 6})
	checkReport(t, "by one not", impl.Exec([]byte("(vector-ref (make-vector 1000 'a) 999)"), 1000, 10), impl.Report{Code: impl.CodeMemory, Steps: 3})
}

func TestExecDepthAtTheLimit(t *testing.T) {
	count := "(define f (lambda (n) (if (= n 0) 0 (+ 1 (f (- n 1))))))"
	for n := impl.MaxDepth - 2; n <= impl.MaxDepth+1; n++ {
		// In tail position the first call has the place of main.
		src := fmt.Sprintf("%s (f %d)", count, n-1)
		if n <= impl.MaxDepth {
			checkText(t, "frames", src, fmt.Sprint(n-1))
		} else {
			// Five steps of main, and ten of each frame.
			checkExec(t, "one frame more", src, impl.Report{Code: impl.CodeLimit, Steps: 5 + 10*impl.MaxDepth})
		}
		src = fmt.Sprintf("%s (+ 0 (f %d))", count, n-2)
		if n <= impl.MaxDepth {
			checkText(t, "frames and main", src, fmt.Sprint(n-2))
		} else {
			checkExec(t, "one frame more than with main", src, impl.Report{Code: impl.CodeLimit, Steps: 6 + 10*(impl.MaxDepth-1)})
		}
	}
	checkText(t, "calls in tail position", "(define f (lambda (n) (if (= n 0) 'end (f (- n 1))))) (f 9000)", "end")
}

// TestExecEnds has a run with each code, with the steps up to it.
func TestExecEnds(t *testing.T) {
	for _, c := range []struct {
		src               string
		heap, fuel, steps int
		code              int
		text              string
	}{
		{"", 0, 10, 2, impl.CodeOK, "#void"}, {"(define x 1)", 0, 10, 4, impl.CodeOK, "#void"}, {"(define x 1) x", 0, 10, 4, impl.CodeOK, "1"}, {"5 (define x 1)", 0, 10, 6, impl.CodeOK, "#void"},
		{"(cons 1 '(a))", 6, 10, 4, impl.CodeOK, "(1 a)"}, {"(lambda () 1)", 2, 10, 2, impl.CodeOK, "#proc"}, {"((lambda (x) (* x x)) 12)", 2, 10, 7, impl.CodeOK, "144"},
		{"(+ 1 'a)", 0, 10, 3, impl.CodeType, ""}, {"(cons (car '()) 1)", 0, 10, 2, impl.CodeType, ""}, {"(1 2)", 0, 10, 3, impl.CodeType, ""},
		{"((lambda () 1) 2)", 2, 10, 3, impl.CodeArity, ""}, {"(+ 1 ((lambda (x) x)))", 2, 10, 3, impl.CodeArity, ""},
		{"(vector-ref (make-vector 2 0) 2)", 3, 10, 5, impl.CodeIndex, ""}, {"(make-vector -1 0)", 0, 10, 3, impl.CodeIndex, ""},
		{"(quotient 1 0)", 0, 10, 3, impl.CodeZero, ""}, {"1 (remainder 1 0) 2", 0, 10, 5, impl.CodeZero, ""},
		{"(* 2305843009213693951 2)", 0, 10, 3, impl.CodeOverflow, ""}, {"(- -2305843009213693952 1)", 0, 10, 3, impl.CodeOverflow, ""},
		{"x (define x 1)", 0, 10, 1, impl.CodeUnset, ""}, {"(letrec ((x x)) 1)", 2, 10, 4, impl.CodeUnset, ""},
		{"(cons 1 2)", 2, 10, 3, impl.CodeMemory, ""}, {"'(1 2)", 5, 10, 0, impl.CodeMemory, ""}, {"(lambda () 1)", 1, 10, 1, impl.CodeMemory, ""}, {"(make-vector 5 0)", 5, 10, 3, impl.CodeMemory, ""},
		{"(let ((x 1)) (set! x 2))", 1, 10, 2, impl.CodeMemory, ""},
		{"(+ 1 2)", 0, 3, 3, impl.CodeFuel, ""}, {"(+ 1 2)", 0, 2, 2, impl.CodeFuel, ""}, {"(+ 1 2)", 0, 0, 0, impl.CodeFuel, ""}, {"(define f (lambda () (f))) (f)", 2, 77, 77, impl.CodeFuel, ""},
		{"(define f (lambda () (f))) (f)", 2, impl.MaxFuel, impl.MaxFuel, impl.CodeFuel, ""},
		{"(define f (lambda () (+ (f) 1))) (f)", 2, impl.MaxFuel, 4 + 2*impl.MaxDepth, impl.CodeLimit, ""},
	} {
		want := impl.Report{Code: c.code, Text: []byte(c.text), Steps: c.steps}
		checkReport(t, c.src, impl.Exec([]byte(c.src), c.heap, c.fuel), want)
		checkReport(t, "image of "+c.src, impl.Boot(imageOf(c.src), c.heap, c.fuel), want)
	}
}

func TestExecExample(t *testing.T) {
	src := "(define list-of (lambda (n) (if (= n 0) '() (cons n (list-of (- n 1))))))\n" +
		"(define sum (lambda (l acc) (if (null? l) acc (sum (cdr l) (+ acc (car l))))))\n(cons (sum (list-of 10) 0) '(a #t))\n"
	// Two procedures of two words; two pairs of the constant, ten of the list.
	checkReport(t, "the example", impl.Exec([]byte(src), 40, 1000), impl.Report{Text: []byte("(55 a #t)"), Steps: 254})
	checkReport(t, "a word less", impl.Exec([]byte(src), 39, 1000), impl.Report{Code: impl.CodeMemory, Steps: 133})
}

func TestExecListsThatJustFit(t *testing.T) {
	// A list that is made: three words a number, and two for the procedure.
	made := func(n int) []byte {
		return fmt.Appendf(nil, "(define go (lambda (n l) (if (= n 0) (car l) (go (- n 1) (cons n l))))) (go %d '(0))", n)
	}
	for _, n := range []int{1, 2, 10, 500, 6665} {
		heap := 3*n + 2 + 3
		if r := impl.Exec(made(n), heap, impl.MaxFuel); r.Code != impl.CodeOK || string(r.Text) != "1" {
			t.Errorf("%d numbers: %s", n, told(r))
		}
		if r := impl.Exec(made(n), heap-1, impl.MaxFuel); r.Code != impl.CodeMemory || len(r.Text) > 0 {
			t.Errorf("%d numbers and a word less: %s", n, told(r))
		}
	}
	checkText(t, "all of the heap", string(made(6665)), "1")
	if r := impl.Exec(made(6666), impl.MaxHeap, impl.MaxFuel); r.Code != impl.CodeMemory {
		t.Errorf("a pair more: %s", told(r))
	}
	// A constant is made ahead of the first step.
	for _, n := range []int{1, 2, 10, 1900} {
		src := []byte("'(" + strings.Repeat("1 ", n) + ")")
		if r := impl.Exec(src, 3*n, 10); r.Code != impl.CodeOK || r.Steps != 2 {
			t.Errorf("a constant of %d numbers: %s", n, told(r))
		}
		checkReport(t, "a constant and a word less", impl.Exec(src, 3*n-1, 10), impl.Report{Code: impl.CodeMemory})
	}
}

func TestExecThrowsAway(t *testing.T) {
	for _, c := range []struct {
		part string // what is made and dropped each time
		room int    // words, beside the procedure
	}{
		{"(cons n n)", 3}, {"(cons n (cons n n))", 6}, {"(make-vector 5 n)", 6}, {"(lambda () n)", 3}, {"(let ((x n)) (set! x 1))", 2}, {"(letrec ((x n)) x)", 2}, {"(car (cons n '()))", 3},
	} {
		src := []byte("(define loop (lambda (n) (if (= n 0) 'done (begin " + c.part + " (loop (- n 1)))))) (loop 3000)")
		for _, heap := range []int{c.room + 2, c.room + 3, c.room + 9, 100, impl.MaxHeap} {
			if r := impl.Exec(src, heap, impl.MaxFuel); r.Code != impl.CodeOK || string(r.Text) != "done" {
				t.Errorf("%s, heap %d: %s", c.part, heap, told(r))
			}
		}
		if r := impl.Exec(src, c.room+1, impl.MaxFuel); r.Code != impl.CodeMemory {
			t.Errorf("%s, heap %d: %s", c.part, c.room+1, told(r))
		}
	}
}
