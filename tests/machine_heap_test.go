package tests

import (
	"fmt"
	"slices"
	"strings"
	"testing"

	"loop.example/s01541/impl"
)

// allSteps answers the numbers of so many steps, as forced collections.
func allSteps(steps int) []int {
	list := make([]int, steps)
	for n := range list {
		list[n] = n
	}
	return list
}

// checkLeast asks that a module ends with CodeMemory in each heap of less than
// so many words, and in none of more, whatever is forced.
func checkLeast(t *testing.T, what string, m impl.Module, want int, text string) {
	t.Helper()
	for heap := range want + 10 {
		for _, forced := range [][]int{nil, allSteps(500)} {
			o := impl.Run(m, heap, 500, forced)
			if heap < want && o.Code != impl.CodeMemory || heap >= want && (o.Code != impl.CodeOK || string(o.Text) != text) {
				t.Errorf("%.200s: %s with %d words, want %q from %d on; %d forced", what, shown(o), heap, text, want, len(forced))
			}
		}
	}
}

func checkLeastSource(t *testing.T, src string, want int, text string) {
	t.Helper()
	checkLeast(t, src, compiled(t, src), want, text)
}

func TestConstantsTakeWords(t *testing.T) {
	for text, words := range map[string]int{
		"5": 0, "#t": 0, "a": 0, "()": 0, "(1)": 3, "(())": 3, "(1 2)": 6, "((1))": 6, "((1) 2 ())": 12, "(a (b (c)))": 15, "(() () ())": 9, "((((()))))": 12,
	} {
		checkLeastSource(t, "'"+text, words, text)
		// What does not fit ends the run ahead of its first frame.
		for heap := range words {
			o := impl.Run(compiled(t, "'"+text), heap, 0, []int{0})
			checkOutcome(t, text, o, ended(impl.CodeMemory, "", 0, 0, 0))
		}
		checkOutcome(t, text, impl.Run(compiled(t, "'"+text), words, 0, []int{0}), ended(impl.CodeFuel, "", 0, 1, 0))
	}
	// Constants that no instruction names are made as well, each for itself.
	one, two := row(list(1), num(1)), row(list(2), list(0), sym("a"))
	checkLeast(t, "not used", withConsts(one), 3, "#void")
	checkLeast(t, "twice the same", withConsts(one, one), 6, "#void")
	checkLeast(t, "several", withConsts(one, row(num(5)), two, one, row(list(0)), two), 18, "#void")
	checkLeast(t, "only atoms", withConsts(row(num(5)), row(sym("a")), row(truth(1)), row(list(0))), 0, "#void")
	// A source has each datum once among its constants.
	checkLeastSource(t, "'(1) '(1) (eq? '(1) '(1))", 3, "#t")
	checkLeastSource(t, "'(1) '(2) '((1)) 5", 3+3+6, "5")
	// Constants stay in use, also when no one leads to them any more.
	checkLeastSource(t, "'(1 2) (cons 1 2)", 9, "(1 . 2)")
	checkLeastSource(t, "(define x '(1 2)) (set! x 5) (cons 1 2)", 9, "(1 . 2)")
	// As many words as there can be.
	long := "'(" + strings.Repeat("1 ", impl.MaxData-3) + ")"
	for heap, code := range map[int]int{3*(impl.MaxData-3) - 1: impl.CodeMemory, 3 * (impl.MaxData - 3): impl.CodeOK} {
		if o := impl.Run(compiled(t, long), heap, 10, nil); o.Code != code {
			t.Errorf("a long constant with %d words: %s", heap, shown(o))
		}
	}
	deep := strings.Repeat("(", 99) + strings.Repeat(")", 99)
	checkLeastSource(t, "'"+deep, 98*3, deep)
}

func TestObjectsTakeWords(t *testing.T) {
	closure := func(free int) impl.Module {
		code := append(times(free, insInt), ins(impl.InsClosure, 1, free), insReturn)
		m := moduleOf(code, ending(0, make([]bool, free)...))
		m.Consts = m.Consts[:constPair]
		return m
	}
	for _, free := range []int{0, 1, 2, 49, impl.MaxFree} {
		checkLeast(t, "a closure", closure(free), 2+free, "#proc")
	}
	checkLeastSource(t, "(cons 1 2)", 3, "(1 . 2)")
	checkLeastSource(t, "(lambda () 1)", 2, "#proc")
	checkLeastSource(t, "(let ((x 1)) (set! x 2) x)", 2, "2")
	checkLeastSource(t, "(letrec ((x 1)) x)", 2, "1")
	checkLeastSource(t, "((lambda (x y) (set! x y) x) 1 2)", 4, "2")
	for _, size := range []int{0, 1, 2, 5} {
		checkLeastSource(t, fmt.Sprintf("(vector-length (make-vector %d 0))", size), 1+size, fmt.Sprint(size))
	}
	checkLeast(t, "an empty box", impl.Module{Funcs: []impl.Func{function(0, nil, insEmpty, insVoid, insReturn)}}, 2, "#void")
	checkLeast(t, "nothing", impl.Module{Funcs: []impl.Func{ending(0)}}, 0, "#void")
	for _, heap := range []int{1000, 1001} {
		want := map[int]impl.Outcome{1000: ended(impl.CodeMemory, "", 3, 1, 1), 1001: ended(impl.CodeOK, "1000", 5, 1, 0)}[heap]
		checkOutcome(t, "the greatest vector", impl.Run(compiled(t, "(vector-length (make-vector 1000 0))"), heap, 10, nil), want)
	}
}

func TestOperandsAreInUse(t *testing.T) {
	checkLeastSource(t, "(cons (cons 1 2) (cons 3 4))", 9, "((1 . 2) 3 . 4)")
	checkLeastSource(t, "(cons (cons 1 2) 3)", 6, "((1 . 2) . 3)")
	checkLeastSource(t, "(cons 3 (cons 1 2))", 6, "(3 1 . 2)")
	checkLeastSource(t, "(make-vector 2 (cons 1 2))", 6, "#((1 . 2) (1 . 2))")
	checkLeastSource(t, "(make-vector 0 (cons 1 2))", 4, "#()")
	checkLeastSource(t, "(let ((x (cons 1 2))) (lambda () x))", 6, "#proc")
	checkLeastSource(t, "(let ((x (cons 1 2)) (y (cons 3 4))) (cons 5 (begin (lambda () x y) 6)))", 6+4, "(5 . 6)")
	checkLeastSource(t, "(let ((x (cons 1 2))) (set! x x) x)", 5, "(1 . 2)")
	checkLeastSource(t, "(let ((x (lambda () 1))) (letrec ((y x)) (y)))", 4, "1")
	// By hand the new object is the only way to the one that it is made of.
	pair := []impl.Ins{ins(impl.InsConst, 0), ins(impl.InsConst, 0), insPrim(impl.PrimCons)}
	made := func(code ...impl.Ins) impl.Module {
		return impl.Module{Consts: [][]impl.Datum{row(num(2))}, Funcs: []impl.Func{function(0, nil, slices.Concat(pair, code)...),
			function(0, []bool{true}, ins(impl.InsFree, 0), insUnbox, insReturn), function(0, []bool{false, true, false}, ins(impl.InsFree, 0), insReturn)}}
	}
	checkLeast(t, "a box of a new pair", made(insWrap, insUnbox, insReturn), 5, "(2 . 2)")
	checkLeast(t, "a closure with a box of a new pair", made(insWrap, ins(impl.InsClosure, 1, 1), ins(impl.InsTail, 0)), 8, "(2 . 2)")
	three := slices.Concat([]impl.Ins{insEmpty}, pair, []impl.Ins{ins(impl.InsClosure, 2, 3), ins(impl.InsTail, 0)})
	checkLeast(t, "a closure with two new pairs and a box", made(three...), 3+2+3+5, "(2 . 2)")
	vector := append([]impl.Ins{ins(impl.InsSetGlobal, 0), ins(impl.InsConst, 0), ins(impl.InsGlobal, 0)}, insPrim(impl.PrimMake), insReturn)
	m := made(vector...)
	m.Globals = 1
	checkLeast(t, "a vector of what a global has", m, 6, "#((2 . 2) (2 . 2))")
}

func TestObjectsAreLetGo(t *testing.T) {
	for src, least := range map[string]int{
		// InsPop
		"(cons 1 2) (cons 3 4) 0":               3,
		"(begin (cons 1 2) (cons 3 4)) 0":       3,
		"(or (not (cons 1 2)) (cons 3 4)) 0":    3,
		"(or (begin (cons 1 2) #f) 0)":          3,
		"(make-vector 5 0) (make-vector 4 0) 0": 6,
		// InsSlide, and where there is none
		"(let ((x (cons 1 2))) 5) (cons 3 4) 0":                              3,
		"(let ((x (cons 1 2))) (cons 3 4)) 0":                                6,
		"(let ((x (cons 1 2)) (y (cons 3 4))) 5) (let ((x (cons 5 6))) 5) 0": 6,
		"(cons (let ((x (cons 1 2))) 5) (letrec ((x (cons 1 2))) 6)) 0":      5,
		// InsSetBox
		"(let ((x (cons 1 2))) (set! x 5) (cons 3 4) 0)":                                                  5,
		"(let ((x (cons 1 2))) (set! x (cons 3 4)) (cons 5 6) 0)":                                         8,
		"(letrec ((x (cons 1 2)) (y (cons 3 4))) (set! x y) (set! y 5) (set! x 5) (cons 5 (cons 6 7)) 0)": 10,
		// InsSetGlobal
		"(define x (cons 1 2)) (define x 5) (cons 3 4) 0":            3,
		"(define x (cons 1 2)) (define x (cons 3 4)) 0":              6,
		"(define x (cons 1 2)) (set! x 5) (set! x (cons 3 4)) 0":     3,
		"(define x (cons 1 2)) (define y x) (set! x 5) (cons 3 4) 0": 6,
		// InsReturn
		"((lambda (x) 5) (cons 1 2)) (cons 3 4) 0":                        5,
		"((lambda () (let ((x (cons 1 2))) 5))) (cons 3 4) 0":             5,
		"((lambda (x) (+ 1 ((lambda (y) 5) (cons 1 2)))) 0) (cons 3 4) 0": 7,
		// InsTail: the frame goes, and what stood in its slots
		"(define f (lambda (n) (cons 1 n) 0)) (let ((x (cons 1 2))) (f 5))":                5,
		"(define f (lambda (n) (cons 1 n) 0)) (let ((x (cons 1 2))) (f x))":                8,
		"(define f (lambda (n) (if (= n 0) 0 (let ((x (cons 1 2))) (f (- n 1)))))) (f 20)": 5,
		"(define f (lambda (n l) (if (= n 0) 0 (f (- n 1) (cons n n))))) (f 20 5)":         8,
		"(define f (lambda (n l) (if (= n 0) 0 (f (- n 1) (cons n l))))) (f 5 5)":          17,
		"(let ((x (cons 1 2))) ((lambda (y) (cons 3 4) y) 0))":                             5,
		"(let ((x (cons 1 2))) ((lambda (y) x (cons 3 4) y) 0))":                           9,
		"(+ 0 (let ((x (cons 1 2))) ((lambda (y) (cons 3 4) y) 0)))":                       8,
		// Operands of what does not allocate
		"(car (cons (cons 1 2) 3)) (cons (cons 1 2) 3) 0":           6,
		"(vector-set! (make-vector 1 0) 0 (cons 1 2)) (cons 1 2) 0": 5,
		"(if (cons 1 2) (cons 3 4)) 0":                              3,
		"(eq? (cons 1 2) (cons 3 4)) (cons (cons 5 6) 7) 0":         6,
	} {
		checkLeastSource(t, src, least, "0")
	}
}

func TestObjectsAreKept(t *testing.T) {
	for src, want := range map[string]string{
		// what only a closure, a box, a vector, a pair or a global leads to
		"(define f (let ((l (cons 1 2))) (lambda () l))) (cons 3 4) (f)":                         "9 (1 . 2)",
		"(let ((x (cons 1 2))) (set! x (cons 3 x)) (cons 5 6) x)":                                "11 (3 1 . 2)",
		"(define v (make-vector 1 0)) (vector-set! v 0 (cons 1 2)) (cons 3 4) (vector-ref v 0)":  "8 (1 . 2)",
		"(define v (make-vector 3 0)) (vector-set! v 2 (make-vector 1 (cons 1 2))) (cons 3 4) v": "12 #(0 0 #((1 . 2)))",
		"(define x (cons (cons 1 2) 3)) (cons 3 4) (car x)":                                      "9 (1 . 2)",
		"(define x (cons 3 (cons 1 2))) (cons 3 4) (cdr x)":                                      "9 (1 . 2)",
		"(define x (cons 1 2)) (cons 3 4) x":                                                     "6 (1 . 2)",
		"(set! x (cons 1 2)) (cons 3 4) (define y x) (define x 0) (cons 3 4) y":                  "6 (1 . 2)",
		"(letrec ((x (cons 1 2)) (f (lambda () x))) (cons 3 4) (f))":                             "13 (1 . 2)",
		"(define f (let ((n 0)) (lambda () (set! n (cons 1 n)) n))) (f) (f)":                     "11 (1 1 . 0)",
		// what only the closure of a frame leads to
		"((let ((l (cons 1 2))) (lambda () (cons 3 4) l)))":                               "9 (1 . 2)",
		"(cons 0 ((let ((l (cons 1 2))) (lambda () (cons 3 4) l))))":                      "9 (0 1 . 2)",
		"(define f (lambda (g) (g))) (f (let ((l (cons 1 2))) (lambda () (cons 3 4) l)))": "11 (1 . 2)",
		"((let ((l (cons 1 2))) (lambda () (+ 0 ((lambda () (cons 3 4) 0))) l)))":         "11 (1 . 2)",
		// what lies in the slots of frames that wait
		"(let ((x (cons 1 2))) (+ 0 ((lambda () (cons 3 4) 0))) x)":                            "8 (1 . 2)",
		"(define f (lambda (n l) (if (= n 0) 0 (begin (f (- n 1) (cons n n)) l)))) (f 4 'end)": "14 end",
		"(define f (lambda (n) (if (= n 0) '() (cons n (f (- n 1)))))) (f 4)":                  "14 (4 3 2 1)",
		"(define f (lambda (n) (if (= n 0) 0 (cons (cons n n) (f (- n 1)))))) (f 2)":           "14 ((2 . 2) (1 . 1) . 0)",
	} {
		var least int
		text := want[strings.Index(want, " ")+1:]
		fmt.Sscan(want, &least)
		checkLeastSource(t, src, least, text)
	}
}

func TestCirclesAreLetGo(t *testing.T) {
	loop := func(body string) string {
		return "(define f (lambda (n) (if (= n 0) 'end " + body + "))) (f 12)"
	}
	for body, least := range map[string]int{
		"(let ((v (make-vector 1 0))) (vector-set! v 0 v) (f (- n 1)))":                                           4,
		"(let ((v (make-vector 2 0)) (w (make-vector 1 0))) (vector-set! v 1 w) (vector-set! w 0 v) (f (- n 1)))": 7,
		"(let ((v (make-vector 1 0))) (vector-set! v 0 (cons v v)) (f (- n 1)))":                                  7,
		"(letrec ((g (lambda () g))) (f (- n 1)))":                                                                7,
		"(letrec ((g (lambda () h)) (h (lambda () g))) (f (- n 1)))":                                              12,
		"(let ((x 0)) (set! x (make-vector 1 0)) (vector-set! x 0 (lambda () x)) (f (- n 1)))":                    9,
	} {
		checkLeastSource(t, loop(body), least, "end")
	}
	// A circle that something leads to stays whole.
	checkLeastSource(t, "(define v (make-vector 1 0)) (vector-set! v 0 (cons 1 v)) (cons 2 3) (car (vector-ref (cdr (vector-ref v 0)) 0))", 8, "1")
	checkLeastSource(t, "(define g (letrec ((g (lambda (n) (if (= n 0) g (g (- n 1)))))) g)) (cons 2 3) (eq? g (g 5))", 8, "#t")
}

func TestCollections(t *testing.T) {
	pairs := compiled(t, "(cons 1 1) (cons 2 2) (cons 3 3) (cons 4 4)") // const const prim pop, three times, const const prim return
	for _, c := range []struct {
		heap     int
		forced   []int
		collects int
	}{
		{3, nil, 3}, {4, nil, 3}, {5, nil, 3}, {6, nil, 1}, {8, nil, 1}, {9, nil, 1}, {11, nil, 1}, {12, nil, 0}, {impl.MaxHeap, nil, 0},
		// at the step that allocates: there is room then
		{3, []int{6}, 3}, {3, []int{6, 10, 14}, 3}, {3, []int{2}, 4}, {6, []int{10}, 1}, {6, []int{14}, 2}, {9, []int{14}, 1}, {12, []int{14}, 1},
		// at the first step, and at the last
		{3, []int{0}, 4}, {3, []int{15}, 4}, {3, []int{16}, 3}, {12, []int{0, 15}, 2},
		// ahead of InsPop the pair is still in use, behind it no more
		{3, []int{3}, 4}, {3, []int{4}, 3}, {3, []int{5}, 3},
		{3, []int{3, 4}, 4}, {3, []int{4, 8, 12}, 3}, {3, []int{3, 7, 11}, 6}, {6, []int{3}, 2}, {6, []int{4}, 2}, {9, []int{4}, 1}, {9, []int{3}, 2},
		{3, allSteps(16), 16}, {12, allSteps(16), 16},
	} {
		what := fmt.Sprintf("%d words, forced %v", c.heap, c.forced)
		checkOutcome(t, what, impl.Run(pairs, c.heap, 100, c.forced), ended(impl.CodeOK, "(4 . 4)", 16, 1, c.collects))
	}
	// A collection that helps nothing counts as well, once.
	for _, heap := range []int{0, 1, 2} {
		checkOutcome(t, "no room", impl.Run(pairs, heap, 100, nil), ended(impl.CodeMemory, "", 3, 1, 1))
		checkOutcome(t, "no room, forced", impl.Run(pairs, heap, 100, []int{2}), ended(impl.CodeMemory, "", 3, 1, 2))
		checkOutcome(t, "no room, no fuel", impl.Run(pairs, heap, 2, nil), ended(impl.CodeFuel, "", 2, 1, 0))
	}
	kept := compiled(t, "(define l (cons 1 1)) (define l (cons 2 l)) (define l (cons 3 l)) l")
	for heap, want := range map[int]impl.Outcome{
		2: ended(impl.CodeMemory, "", 3, 1, 1), 5: ended(impl.CodeMemory, "", 7, 1, 1), 8: ended(impl.CodeMemory, "", 11, 1, 1), 9: ended(impl.CodeOK, "(3 2 1 . 1)", 14, 1, 0),
	} {
		checkOutcome(t, fmt.Sprintf("kept in %d words", heap), impl.Run(kept, heap, 100, nil), want)
	}
	// A constant is there from the beginning, and counts against what is made.
	checkOutcome(t, "beside a constant", impl.Run(compiled(t, "(cons 0 '(1 2)) (cons 0 '(1 2))"), 9, 100, nil), ended(impl.CodeOK, "(0 1 2)", 8, 1, 1))
	checkOutcome(t, "beside a constant", impl.Run(compiled(t, "(cons 0 '(1 2)) (cons 0 '(1 2))"), 12, 100, nil), ended(impl.CodeOK, "(0 1 2)", 8, 1, 0))
	checkOutcome(t, "beside a constant", impl.Run(compiled(t, "(cons 0 '(1 2))"), 8, 100, nil), ended(impl.CodeMemory, "", 3, 1, 1))
	// A loop that drops boxes, each behind a collection.
	boxes := impl.Module{Funcs: []impl.Func{function(0, nil, insEmpty, insPop, insJump(0))}}
	checkOutcome(t, "boxes", impl.Run(boxes, 2, 31, nil), ended(impl.CodeFuel, "", 31, 1, 10))
	checkOutcome(t, "boxes", impl.Run(boxes, 3, 31, nil), ended(impl.CodeFuel, "", 31, 1, 10))
	checkOutcome(t, "boxes", impl.Run(boxes, 4, 31, nil), ended(impl.CodeFuel, "", 31, 1, 5))
	checkOutcome(t, "boxes", impl.Run(boxes, 21, 31, nil), ended(impl.CodeFuel, "", 31, 1, 1))
	checkOutcome(t, "boxes", impl.Run(boxes, 22, 31, nil), ended(impl.CodeFuel, "", 31, 1, 0))
}

func TestChecksAheadOfMemory(t *testing.T) {
	for src, code := range map[string]int{
		"(make-vector 1001 0)": impl.CodeIndex, "(make-vector -1 0)": impl.CodeIndex, "(make-vector 'a 0)": impl.CodeType, "(make-vector 0 0)": impl.CodeMemory,
		"(cons 1 2)": impl.CodeMemory, "(car 5)": impl.CodeType, "(quotient 1 0)": impl.CodeZero, "(lambda () 1)": impl.CodeMemory, "(letrec ((x 1)) 1)": impl.CodeMemory,
		"(let ((x 1)) (set! x 1))": impl.CodeMemory,
	} {
		o := impl.Run(compiled(t, src), 0, 100, nil)
		if want := map[bool]int{true: 1}[code == impl.CodeMemory]; o.Code != code || o.Collects != want {
			t.Errorf("%q without words: %s, want code %d", src, shown(o), code)
		}
	}
}

func TestManyObjects(t *testing.T) {
	// All words of the greatest heap: two are those of f.
	long := "(define f (lambda (n l) (if (= n 0) l (f (- n 1) (cons %s l))))) (define l (f %d '())) (null? l)"
	for element, most := range map[string]int{"n": 19998 / 3, "(make-vector 0 0)": 19998 / 4, "(cons n n)": 19998 / 6, "(lambda () 1)": 19998 / 5} {
		for count, code := range map[int]int{most - 1: impl.CodeOK, most: impl.CodeOK, most + 1: impl.CodeMemory} {
			if o := impl.Run(compiled(t, fmt.Sprintf(long, element, count)), impl.MaxHeap, impl.MaxFuel, nil); o.Code != code {
				t.Errorf("a list of %d times %s: %s, want code %d", count, element, shown(o), code)
			}
		}
	}
	// Many small objects are let go, and few great ones come in their place.
	grown := fmt.Sprintf(long, "n", 6600) + " (set! l (make-vector 19 0))" +
		" (define g (lambda (n) (if (= n 0) l (begin (vector-set! l n (make-vector 1000 n)) (g (- n 1)))))) (vector-length (vector-ref (g 18) 18))"
	o := impl.Run(compiled(t, grown), impl.MaxHeap, impl.MaxFuel, nil)
	if o.Code != impl.CodeOK || string(o.Text) != "1000" || o.Collects != 1 {
		t.Errorf("great objects: %s", shown(o))
	}
	// Each round makes a list and lets it go.
	rounds := "(define f (lambda (n l) (if (= n 0) l (f (- n 1) (cons n l))))) (define g (lambda (n) (if (= n 0) 'end (begin (f 50 '()) (g (- n 1)))))) (g 50)"
	o = impl.Run(compiled(t, rounds), 4+150, impl.MaxFuel, nil)
	if o.Code != impl.CodeOK || string(o.Text) != "end" || o.Collects < 49 {
		t.Errorf("many lists: %s", shown(o))
	}
}
