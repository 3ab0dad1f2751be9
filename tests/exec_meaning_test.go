package tests

import (
	"fmt"
	"strings"
	"testing"

	"loop.example/s01541/impl"
)

func told(r impl.Report) string {
	return fmt.Sprintf("code %d at %d, text %.120q, %d steps", r.Code, r.At, r.Text, r.Steps)
}

func sameReport(a, b impl.Report) bool {
	return a.Code == b.Code && a.At == b.At && string(a.Text) == string(b.Text) && a.Steps == b.Steps
}

func checkReport(t *testing.T, what string, got, want impl.Report) {
	t.Helper()
	if !sameReport(got, want) {
		t.Errorf("%.300s: %s, want %s", what, told(got), told(want))
	}
}

// meant is a source with what it must come to, given heap and fuel enough.
type meant struct {
	src  string
	code int
	text string
}

func valued(src, text string) meant { return meant{src, impl.CodeOK, text} }

func faulty(code int, sources ...string) []meant {
	var all []meant
	for _, src := range sources {
		all = append(all, meant{src, code, ""})
	}
	return all
}

// seen stands ahead of sources that tell in which order they see things, the
// last one first.
const seen = "(define log '()) (define see (lambda (x) (set! log (cons x log)) x)) "

var meantOrder = []meant{
	valued(seen+"(+ (see 1) (see 2)) log", "(2 1)"),
	valued(seen+"(cons (see 1) (cons (see 2) (see 3))) log", "(3 2 1)"),
	valued(seen+"((begin (see 'f) (lambda (a b c) log)) (see 1) (see 2) (see 3))", "(3 2 1 f)"),
	valued(seen+"(cons 0 ((begin (see 'f) (lambda (a b) log)) (see 1) (see 2)))", "(0 2 1 f)"),
	valued(seen+"(let ((a (see 1)) (b (see 2))) (see 3)) log", "(3 2 1)"),
	valued(seen+"(letrec ((a (see 1)) (b (see 2))) (see 3)) log", "(3 2 1)"),
	valued(seen+"(vector-set! (see (make-vector 2 0)) (see 1) (see 'v)) log", "(v 1 #(0 v))"),
	valued(seen+"(if (see #f) (see 1) (see 2)) log", "(2 #f)"),
	valued(seen+"(if (see 0) (see 1) (see 2)) log", "(1 0)"),
	valued(seen+"(and (see 1) (see #f) (see 2)) log", "(#f 1)"),
	valued(seen+"(or (see #f) (see 2) (see 3)) log", "(2 #f)"),
	valued(seen+"(begin (see 1) (see 2)) log", "(2 1)"),
	valued(seen+"((lambda () (see 1) (see 2) (see 3))) log", "(3 2 1)"),
	valued(seen+"(define a (see 1)) (see 2) (define a (see 3)) (cons a log)", "(3 3 2 1)"),
	valued(seen+"(define x 0) (set! x (begin (see 1) 2)) (see x) log", "(2 1)"),
	valued(seen+"(make-vector (see 2) (see 'e)) log", "(e 2)"),
	valued("(define f (lambda (x) 'old)) (f (set! f (lambda (x) 'new)))", "old"),
	valued("(let ((x 1)) (+ x (begin (set! x 10) x)))", "11"),
	valued("(let ((x 1)) (cons x (begin (set! x 2) x)))", "(1 . 2)"),
	valued("(let ((x 1)) (cons (begin (set! x 2) x) x))", "(2 . 2)"),
	valued("(define x 1) (cons x (begin (set! x 2) x))", "(1 . 2)"),
	valued("(define x 1) (set! x (+ x (begin (set! x 10) x))) x", "11"),
}

var meantScopes = []meant{
	valued("(define x 1) (let ((x 2) (y x)) (cons x y))", "(2 . 1)"),
	valued("(define x 1) (letrec ((x 2) (y x)) (cons x y))", "(2 . 2)"),
	valued("(let ((x 1) (y 2)) (let ((x y) (y x)) (cons x y)))", "(2 . 1)"),
	valued("(let ((x 1)) (cons (let ((x 2)) x) x))", "(2 . 1)"),
	valued("(let ((x 1)) (cons x (let ((x 2) (z x)) (cons x z))))", "(1 2 . 1)"),
	valued("(define x 1) (define f (lambda () x)) (let ((x 2)) (f))", "1"),
	valued("(let ((x 1)) (let ((f (lambda () x))) (let ((x 2)) (f))))", "1"),
	valued("(define f (lambda () x)) (define x 1) (set! x 2) (f)", "2"),
	valued("(define x 1) (define x (+ x 1)) (define x (* x 10)) x", "20"),
	valued("((lambda (x) ((lambda (x) (set! x 3) x) 2) x) 1)", "1"),
	valued("(define x 1) ((lambda (x) (set! x 5)) 2) x", "1"),
	valued("(define x 1) (let ((x 2)) (set! x 3)) x", "1"),
	valued("(define x 1) ((lambda (y) (set! x y)) 3) x", "3"),
	valued("((lambda (a) (cons (a 1) (let ((a (lambda (n) (* n 100)))) (a 2)))) (lambda (n) (+ n 10)))", "(11 . 200)"),
	valued("(let ((if (lambda (a b c) c))) (if #t 1 2))", "2"),
	valued("(define car (lambda (x) 'mine)) (cons (car 1) car)", "(mine . #proc)"),
	valued("(define cdr 2) (let ((car cdr) (cdr 1)) (cons car cdr))", "(2 . 1)"),
	valued("(define car 5) (let ((cdr car)) (+ car cdr))", "10"),
	valued("((lambda (quote x) 'x) (lambda (a) (+ a 1)) 4)", "5"),
	valued("(let ((+ (lambda (a b) (- a b)))) (+ 5 3))", "2"),
	valued("(define + (lambda (a b) 'sum)) (define f (lambda (x) (+ x x))) (f 1)", "sum"),
	valued("(define define 3) (define x define) (+ x define)", "6"),
	valued("(define define (lambda (a b) (- a b))) (+ 0 (define 7 3))", "4"),
	valued("(let ((define (lambda (a b) (cons a b)))) (define 1 2))", "(1 . 2)"),
	valued("(define lambda 1) (let ((let lambda)) (+ let lambda))", "2"),
	valued("(define and 1) (or and 2)", "1"),
	valued("(define begin (lambda (a b) a)) (begin 1 2)", "1"),
	valued("(let ((x 1)) (letrec ((f (lambda () (set! x (+ x 1)) x))) (let ((x 10)) (cons (f) (cons x (f))))))", "(2 10 . 3)"),
}

var meantVariables = []meant{
	valued("(let ((n 0)) (let ((up (lambda () (set! n (+ n 1)))) (get (lambda () n))) (up) (up) (get)))", "2"),
	valued("(define make (lambda (n) (cons (lambda () (set! n (+ n 1)) n) (lambda () n)))) (define a (make 10)) (define b (make 20))"+
		" ((car a)) ((car a)) ((car b)) (cons ((cdr a)) ((cdr b)))", "(12 . 21)"),
	valued("(define fs (lambda (n) (if (= n 0) '() (cons (lambda () n) (fs (- n 1))))))"+
		" (define all (lambda (l) (if (null? l) '() (cons ((car l)) (all (cdr l)))))) (all (fs 3))", "(3 2 1)"),
	valued("(define loop (lambda (i acc) (if (= i 3) acc (let ((j i)) (loop (+ i 1) (cons (lambda () (set! j (+ j 10)) j) acc))))))"+
		" (define fs (loop 0 '())) ((car fs)) (cons ((car fs)) ((car (cdr fs))))", "(22 . 11)"),
	valued("(let ((x 1)) (let ((f (lambda () x))) (set! x 2) (f)))", "2"),
	valued("((((lambda (a) (lambda (b) (lambda (c) (cons a (cons b c))))) 1) 2) 3)", "(1 2 . 3)"),
	valued("((((lambda (a) (lambda (b) (lambda (c) (set! b (+ a b)) (set! a (* b c)) (cons a b)))) 1) 2) 3)", "(9 . 3)"),
	valued("(let ((x 1)) ((lambda () ((lambda () (set! x 7))))) x)", "7"),
	valued("((lambda (a b c) (set! b (+ a b)) (cons a (cons b c))) 1 2 3)", "(1 3 . 3)"),
	valued("((lambda (a b c) (set! c 'c) (set! a 'a) (cons a (cons b c))) 1 2 3)", "(a 2 . c)"),
	valued("(define get (let ((secret 42)) (lambda () secret))) (let ((secret 1)) (get))", "42"),
	valued("(let ((a 1) (b 2) (c 3)) ((lambda () (set! b (+ a c)) (cons c (cons b a)))))", "(3 4 . 1)"),
	valued("(define x 1) (define f (lambda () (set! x (* x 2)) x)) (f) (f) (cons (f) x)", "(8 . 8)"),
	valued("(let ((x 1) (f (lambda (v) (set! v (+ v 1)) v))) (cons (f x) x))", "(2 . 1)"),
	valued("(let ((v (make-vector 1 0))) (let ((f (lambda (w) (vector-set! w 0 5)))) (f v) (vector-ref v 0)))", "5"),
}

var meantForms = []meant{
	valued("", "#void"), valued(" ; nothing", "#void"), valued("(define x 1)", "#void"), valued("1 (define x 1)", "#void"), valued("1 2 3", "3"),
	valued("5", "5"), valued("-5", "-5"), valued("-0", "0"), valued("#t", "#t"), valued("#f", "#f"), valued("'()", "()"), valued("'a", "a"), valued("''a", "(quote a)"),
	valued("'(1 (2 #t) () x)", "(1 (2 #t) () x)"), valued("(quote (quote))", "(quote)"), valued("'(if)", "(if)"), valued("(lambda (x) x)", "#proc"),
	valued("(if #f 1)", "#void"), valued("(if #t 1)", "1"), valued("(if #f 1 2)", "2"), valued("(if '() 1 2)", "1"), valued("(if 0 1 2)", "1"),
	valued("(if (if #f 1) 1 2)", "1"), valued("(cons (if #f 1) (if #t 2))", "(#void . 2)"), valued("((lambda (x) (if x 1)) #f)", "#void"),
	valued("(begin 1)", "1"), valued("(begin 1 2 3)", "3"), valued("(+ (begin 1 2) (begin 3))", "5"),
	valued("(and)", "#t"), valued("(or)", "#f"), valued("(and 1)", "1"), valued("(or 1)", "1"), valued("(and #f)", "#f"), valued("(or #f)", "#f"),
	valued("(and 1 2 3)", "3"), valued("(and 1 #f 3)", "#f"), valued("(or #f #f)", "#f"), valued("(or #f 2 #f)", "2"), valued("(and '() 0)", "0"), valued("(or '() 1)", "()"),
	valued("(cons (and 1 #f) (or #f 2))", "(#f . 2)"), valued("(cons (and) (or))", "(#t . #f)"), valued("(let ((x (or #f 1)) (y (and 1 2))) (cons x y))", "(1 . 2)"),
	valued("(or (and #f 1) (and 2 #f) (and 3 4))", "4"), valued("(and (or #f 1) (or 2 #f))", "2"),
	valued("(let () 1)", "1"), valued("(letrec () 1)", "1"), valued("(let ((x 1)) 2 x)", "1"), valued("(cons (let ((x 1) (y 2)) x) (letrec ((z 3)) z))", "(1 . 3)"),
	valued("(define x 1) (set! x 2)", "#void"), valued("(let ((x 1)) (cons (set! x 2) x))", "(#void . 2)"), valued("(define x 1) (cons (set! x 2) x)", "(#void . 2)"),
	valued("(set! x 5) (define y x) (define x 1) (cons y x)", "(5 . 1)"),
	valued("(letrec ((even (lambda (n) (if (= n 0) #t (odd (- n 1))))) (odd (lambda (n) (if (= n 0) #f (even (- n 1)))))) (cons (even 7) (odd 7)))", "(#f . #t)"),
	valued("(letrec ((f (lambda (n) (if (= n 0) 'done (f (- n 1))))) (x (f 3))) x)", "done"),
	valued("(letrec ((a (set! b 1)) (b 2)) (cons a b))", "(#void . 2)"), valued("(letrec ((a (begin (set! b 1) b)) (b 2)) (cons a b))", "(1 . 2)"),
	valued("(letrec ((a 1)) (set! a (+ a 1)) a)", "2"), valued("(letrec ((f (lambda () x)) (x 1)) (f))", "1"),
	valued("(eq? '(1) '(1))", "#t"), valued("(eq? '(1 2) (cons 1 '(2)))", "#f"), valued("(eq? (cdr '(1 2)) '(2))", "#f"), valued("(eq? 'a 'a)", "#t"), valued("(eq? 5 5)", "#t"),
	valued("(let ((f (lambda () '(1)))) (eq? (f) (f)))", "#t"), valued("(eq? (cons 1 2) (cons 1 2))", "#f"), valued("(let ((x (cons 1 2))) (eq? x x))", "#t"),
	valued("(eq? (lambda () 1) (lambda () 1))", "#f"), valued("(let ((f (lambda () 1))) (eq? f f))", "#t"), valued("(eq? (if #f 1) (if #f 1))", "#t"), valued("(eq? '() '())", "#t"),
	valued("(cons (quotient -7 2) (remainder -7 2))", "(-3 . -1)"), valued("(cons (quotient 7 -2) (remainder 7 -2))", "(-3 . 1)"), valued("(not '())", "#f"), valued("(not #f)", "#t"),
	valued("(cons 1 (cons 2 3))", "(1 2 . 3)"), valued("(make-vector 0 1)", "#()"), valued("(make-vector 2 '(a))", "#((a) (a))"), valued("(vector-length (make-vector 7 0))", "7"),
	valued("(+ 2305843009213693950 1)", greatest), valued("(- -2305843009213693951 1)", least), valued("(remainder -2305843009213693952 -1)", "0"),
	valued("(let ((v (make-vector 2 0))) (vector-set! v 1 v) v)", strings.Repeat("#(0 ", 250)),
}

var meantProcedures = []meant{
	valued("(define keep '()) (define f (lambda (x) (set! keep (lambda () x)))) (f 5) (f 6) (keep)", "6"),
	valued("(define v (make-vector 2 0)) (vector-set! v 0 (lambda (n) (* n n))) (vector-set! v 1 (vector-ref v 0)) ((vector-ref v 1) 9)", "81"),
	valued("(define l (let ((n 1)) (cons (lambda () (set! n (* n 2))) (lambda () n)))) ((car l)) ((car l)) ((car l)) ((cdr l))", "8"),
	valued("(define f (lambda (n) (lambda () (set! f (lambda (m) (+ n m))) n))) ((f 3)) (f 4)", "7"),
	valued("(((lambda (h) (h h)) (lambda (self) (lambda (n) (if (= n 0) 1 (* n ((self self) (- n 1))))))) 5)", "120"),
	valued("(define ack (lambda (m n) (if (= m 0) (+ n 1) (if (= n 0) (ack (- m 1) 1) (ack (- m 1) (ack m (- n 1))))))) (ack 2 3)", "9"),
	valued("(define fib (lambda (n) (if (< n 2) n (+ (fib (- n 1)) (fib (- n 2)))))) (fib 15)", "610"),
	valued("(define fact (lambda (n) (if (= n 0) 1 (* n (fact (- n 1)))))) (fact 19)", "121645100408832000"),
	valued("(define gcd (lambda (a b) (if (= b 0) a (gcd b (remainder a b))))) (gcd 1071 462)", "21"),
	valued("(define append (lambda (a b) (if (null? a) b (cons (car a) (append (cdr a) b))))) (append '(1 2) (append '() '(3 4)))", "(1 2 3 4)"),
	valued("(define fold (lambda (f acc l) (if (null? l) acc (fold f (f acc (car l)) (cdr l))))) (cons (fold (lambda (a b) (+ a b)) 0 '(1 2 3)) (fold (lambda (a b) (cons b a)) '() '(1 2 3)))",
		"(6 3 2 1)"),
	valued("(define map (lambda (f l) (if (null? l) '() (cons (f (car l)) (map f (cdr l)))))) (let ((k 10)) (map (lambda (x) (* x k)) '(1 2 3)))", "(10 20 30)"),
	valued("(define compose (lambda (f g) (lambda (x) (f (g x))))) ((compose (lambda (x) (+ x 1)) (lambda (x) (* x 2))) 5)", "11"),
	valued("(define sieve (make-vector 30 #t)) (define mark (lambda (i step) (if (< i 30) (begin (vector-set! sieve i #f) (mark (+ i step) step)))))"+
		" (define go (lambda (i) (if (= i 30) '() (if (vector-ref sieve i) (begin (mark (* i 2) i) (cons i (go (+ i 1)))) (go (+ i 1)))))) (go 2)", "(2 3 5 7 11 13 17 19 23 29)"),
	valued("(define count (lambda (n) (or (= n 0) (count (- n 1))))) (count 5000)", "#t"),
	valued("(define count (lambda (n) (and (< 0 n) (count (- n 1))))) (count 5000)", "#f"),
	valued("(define count (lambda (n) (let ((m (- n 1))) (if (= m 0) 'end (begin m (count m)))))) (count 5000)", "end"),
	valued("((lambda (a b c d e f g h i j k l m n o p q r s t) (cons a (cons j t))) 1 2 3 4 5 6 7 8 9 10 11 12 13 14 15 16 17 18 19 20)", "(1 10 . 20)"),
}

// Of two errors the one comes that is met first; what is not come to has none.
var meantErrors = joined(
	faulty(impl.CodeType, "(+ (car 1) (quotient 1 0))", "(+ 1 'a)", "(+ 'a 1)", "(quotient 'a 0)", "(1 2)", "('f)", "(#t)", "((cons 1 2) 1)", "(car '())", "(cdr (make-vector 1 0))",
		"(vector-ref '(1) 0)", "(vector-ref 1 5)", "(vector-ref (make-vector 1 0) 'a)", "(vector-set! 'v (- 0 1) 0)", "(vector-length '())", "(make-vector -1 (car 1))", "(make-vector 'a 1)",
		"(let ((a (car 1)) (b (quotient 1 0))) 1)", "(begin (car 1) (quotient 1 0))", "(define x (car 1)) (quotient 1 0)", "(if (car 1) (quotient 1 0))", "(and 1 (car 1))", "(or #f (car 1) (quotient 1 0))",
		"(if #f (quotient 1 0) (car 1))", "(define x 1) (set! x (car x)) (quotient 1 0)", "(= 1 #t)", "(< '() 1)", "((lambda (f) (f 1)) 1)", "((if #f 1) 2)", "(< (if #f 1) 0)"),
	faulty(impl.CodeZero, "(+ (quotient 1 0) (car 1))", "(+ 'a (quotient 1 0))", "((quotient 1 0) (car 1))", "(1 (quotient 1 0))", "((lambda (x) x) (quotient 1 0) 2)", "(quotient 0 0)", "(remainder 5 0)",
		"(vector-set! (make-vector 2 0) 2 (quotient 1 0))", "(make-vector 1001 (remainder 1 0))", "(or #f (quotient 1 0) (car 1))", "(and (quotient 1 0) (car 1))", "(letrec ((a (quotient 1 0)) (b a)) (car 1))",
		"(lambda () (car 1)) (quotient 1 0)", "(let ((f (lambda () (quotient 1 0)))) (cons (f) (car 1)))"),
	faulty(impl.CodeArity, "((lambda () 1) 2)", "((lambda (x) 1))", "((lambda (x y) (car 1)) 1)", "((lambda (x) (car 1)) 1 2)", "(define f (lambda (a b) a)) (+ (f 1) (car 1))", "(cons ((lambda (x) x)) (quotient 1 0))",
		"(define f (lambda () (f 1))) (f)"),
	faulty(impl.CodeIndex, "(vector-ref (make-vector 3 0) 3)", "(vector-ref (make-vector 3 0) -1)", "(vector-ref (make-vector 0 0) 0)", "(vector-set! (make-vector 2 0) 2 0)", "(make-vector 1001 0)", "(make-vector -1 0)",
		"(+ (vector-ref (make-vector 1 0) 1) (car 1))", "(vector-ref (make-vector 3 0) 2305843009213693951)", "(make-vector -2305843009213693952 0)"),
	faulty(impl.CodeOverflow, "(+ 2305843009213693951 1)", "(- -2305843009213693952 1)", "(* 1518500250 1518500250)", "(quotient -2305843009213693952 -1)", "(- 0 -2305843009213693952)", "(* -2305843009213693952 -1)",
		"(cons (* 2305843009213693951 2305843009213693951) (car 1))", "(* 1152921504606846976 4)", "(* 4294967296 4294967296)", "(* -1152921504606846976 16)"),
	faulty(impl.CodeUnset, "x (define x 1)", "(define x x)", "(define f (lambda () y)) (f) (define y 1)", "(letrec ((a a)) a)", "(letrec ((a b) (b 1)) (car 1))", "(letrec ((f (lambda () x)) (y (f)) (x 1)) y)",
		"(letrec ((a (lambda () b)) (b (+ (a) (car 1)))) b)", "(f (car 1)) (define f 1)", "(define x (cons y (car 1))) (define y 2)", "(letrec ((x 1) (y (begin (set! z 1) w)) (z 2) (w 3)) x)"),
	faulty(impl.CodeLimit, "(define f (lambda () (+ 1 (f)))) (f)", "(define f (lambda (n) (cons (f n) (car 1)))) (f 1)", "(letrec ((f (lambda () (and (f) 1)))) (f))"),
	faulty(impl.CodeFuel, "(define f (lambda () (f))) (f)", "(letrec ((f (lambda (n) (if #t (f (- 0 n)) (car 1))))) (f 1))", "(define f (lambda () (or #f (begin 1 (let ((x 1)) (f)))))) (cons (f) (car 1))"),
	faulty(impl.CodeMemory, "(define f (lambda (l) (f (cons 1 l)))) (f '())", "(define f (lambda (v) (f (make-vector 1000 v)))) (f 0)", "(define f (lambda (g) (f (lambda () (g))))) (f 0)",
		"(define v (make-vector 1000 0)) (define f (lambda (n) (vector-set! v n (make-vector 1000 0)) (f (+ n 1)))) (f 0)"),
)

// joined is one list of several.
func joined(lists ...[]meant) []meant {
	var all []meant
	for _, list := range lists {
		all = append(all, list...)
	}
	return all
}

func meantSources() []meant {
	example := "(define list-of (lambda (n) (if (= n 0) '() (cons n (list-of (- n 1))))))\n" +
		"(define sum (lambda (l acc) (if (null? l) acc (sum (cdr l) (+ acc (car l))))))\n(cons (sum (list-of 10) 0) '(a #t))\n"
	return joined([]meant{valued(example, "(55 a #t)")}, meantOrder, meantScopes, meantVariables, meantForms, meantProcedures, meantErrors)
}

func TestExecMeaning(t *testing.T) {
	for _, m := range meantSources() {
		r := impl.Exec([]byte(m.src), impl.MaxHeap, impl.MaxFuel)
		if r.Code != m.code || string(r.Text) != m.text || r.At != 0 {
			t.Errorf("%.300s: %s, want code %d, text %q", m.src, told(r), m.code, m.text)
		}
	}
}
