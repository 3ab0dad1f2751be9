package tests

import (
	"math/rand"
	"slices"
	"testing"

	"loop.example/s01541/impl"
)

// runPrograms are programs that make, keep and let go objects in all ways, and
// end in all ways.
var runPrograms = []string{
	"(define list-of (lambda (n) (if (= n 0) '() (cons n (list-of (- n 1)))))) (define sum (lambda (l acc) (if (null? l) acc (sum (cdr l) (+ acc (car l))))))" +
		" (cons (sum (list-of 10) 0) '(a #t))",
	"(define rev (lambda (l r) (if (null? l) r (rev (cdr l) (cons (car l) r))))) (define n 20) (define l '(1 2 3 4))" +
		" (letrec ((go (lambda () (if (= n 0) l (begin (set! n (- n 1)) (set! l (rev l '())) (go)))))) (go))",
	"(define map (lambda (f l) (if (null? l) '() (cons (f (car l)) (map f (cdr l)))))) (define add (lambda (n) (lambda (x) (+ x n)))) (map (add 3) (map (add 4) '(1 2 3 4 5)))",
	"(define fib (lambda (n) (if (< n 2) n (+ (fib (- n 1)) (fib (- n 2)))))) (fib 9)",
	"(define fill (lambda (v n) (if (= n (vector-length v)) v (begin (vector-set! v n (make-vector n (cons n n))) (fill v (+ n 1)))))) (fill (make-vector 6 0) 0)",
	"(letrec ((even (lambda (n) (if (= n 0) #t (odd (- n 1))))) (odd (lambda (n) (if (= n 0) #f (even (- n 1)))))) (cons (even 20) (odd 20)))",
	"(define counter (lambda () (let ((n 0)) (lambda () (set! n (+ n 1)) n)))) (define a (counter)) (define b (counter)) (a) (a) (b) (cons (a) (b))",
	"(define compose (lambda (f g) (lambda (x) (f (g x))))) (define twice (lambda (f) (compose f f))) (((lambda (f) (f (f twice))) twice) (lambda (x) (cons x x)))",
	"((((lambda (f) (f (f (f f)))) (lambda (f) (lambda (x) (f (f x))))) (lambda (x) (+ x 1))) 0)",
	"(define loop (lambda (n v) (if (= n 0) v (let ((w (make-vector 2 v))) (vector-set! w 1 w) (loop (- n 1) (if (= (remainder n 3) 0) 'gone w)))))) (loop 20 'first)",
	"(define q (make-vector 4 '())) (define put (lambda (n) (if (= n 0) q (begin (vector-set! q (remainder n 4) (cons n (vector-ref q (remainder n 4)))) (put (- n 1)))))) (put 12)",
	"(define fact (lambda (n) (if (= n 0) 1 (* n (fact (- n 1)))))) (cons (fact 5) (fact 19))",
	"(define fact (lambda (n) (if (= n 0) 1 (* n (fact (- n 1)))))) (fact 20)",
	"(define f (lambda (n) (cons n (f (- n 1))))) (f 5)",
	"(define f (lambda (n l) (f (+ n 1) (cons n l)))) (f 0 '())",
	"(define f (lambda (l) (if (null? l) (car l) (f (cdr l))))) (f '(1 2 3))",
	"(define f (lambda (n) (if (= n 0) (f) (begin (cons n n) (f (- n 1)))))) (f 9)",
	"(define f (lambda (v n) (if (vector-ref v n) (f v (+ n 1)) 1))) (f (make-vector 5 'x) 0)",
	"(define f (lambda (n) (cons 1 (quotient 100 n)) (f (- n 1)))) (f 5)",
	"(define f (lambda (n) (if (= n 0) later (begin (make-vector n n) (f (- n 1)))))) (f 4) (define later 1)",
	"(letrec ((a (lambda () (cons 1 (b)))) (c (begin (cons 1 2) (a))) (b (lambda () 5))) c)",
	"(define f (lambda () (cons 1 (f)))) (f)",
	"(define f (lambda (n) (let ((x (make-vector 3 n))) (or (and (= n 5) x) (f (+ n 1)))))) (f 0)",
	"'(some (long (constant) list) with 12 of #t)", "", "(lambda (x) x)",
}

// promiseModules are compiled ones and ones made by hand.
func promiseModules(t *testing.T, r *rand.Rand, count int) []impl.Module {
	var all []impl.Module
	for _, src := range runPrograms {
		all = append(all, compiled(t, src))
	}
	for n := range count {
		all = append(all, runModule(r, []int{0, 2, 10, 40}[n%4]))
		if m := randomModule(r); n%4 == 0 {
			disturb(r, m)
			if _, code, _ := impl.Verify(m); code == impl.CodeOK {
				all = append(all, m)
			}
		}
	}
	return all
}

// allProven tells whether there is nothing in a safe module that could be
// proven and is not.
func allProven(m impl.Module) bool {
	proven, code, _ := impl.Verify(m)
	for n, f := range m.Funcs {
		for at, i := range f.Code {
			if code != impl.CodeOK || !proven[n][at] && (i.Op == impl.InsPrim || i.Op == impl.InsCall || i.Op == impl.InsTail) {
				return false
			}
		}
	}
	return true
}

func TestRunEndsWithStatedCodes(t *testing.T) {
	t.Parallel()
	r := rand.New(rand.NewSource(71))
	var tally runTally
	for _, m := range promiseModules(t, r, 1000) {
		for range 6 {
			heap, fuel := r.Intn(r.Intn(200)+1), r.Intn(r.Intn(3000)+1)
			forced := madeForced(r, fuel)
			o := impl.Run(m, heap, fuel, forced)
			if !slices.Contains(runCodes, o.Code) || len(o.Text) > 0 && o.Code != impl.CodeOK || o.Steps > fuel || o.Frames > impl.MaxDepth {
				t.Fatalf("heap %d, fuel %d: %s for\n%s", heap, fuel, shown(o), impl.ListModule(m))
			}
			tally.count(o, forced)
		}
		tally.count(impl.Run(m, impl.MaxHeap, impl.MaxFuel/5, nil), nil)
	}
	tally.checkCodes(t, 10, runCodes...)
}

func TestProvenModulesMeetNoWrongKind(t *testing.T) {
	t.Parallel()
	r := rand.New(rand.NewSource(72))
	var tally runTally
	for n := range 5000 {
		m := runModule(r, 0)
		if n%5 == 0 {
			// Another module with what would be proven, if the kinds fit.
			for range 4 {
				disturb(r, m)
			}
		}
		if !allProven(m) {
			if n%5 != 0 {
				t.Fatalf("not all proven:\n%s", impl.ListModule(m))
			}
			continue
		}
		for _, heap := range []int{r.Intn(80), impl.MaxHeap} {
			forced := madeForced(r, 2000)
			o := impl.Run(m, heap, 2000, forced)
			if o.Code == impl.CodeType {
				t.Fatalf("heap %d: %s for\n%s", heap, shown(o), impl.ListModule(m))
			}
			tally.count(o, forced)
		}
	}
	tally.checkCodes(t, 20, impl.CodeOK, impl.CodeArity, impl.CodeIndex, impl.CodeZero, impl.CodeOverflow, impl.CodeUnset, impl.CodeMemory, impl.CodeFuel)
}

func TestHeapsAndCollectionsAreNotSeen(t *testing.T) {
	t.Parallel()
	r := rand.New(rand.NewSource(73))
	var tally runTally
	for n, m := range promiseModules(t, r, 700) {
		fuel := 1 + r.Intn(2500)
		if n < len(runPrograms) {
			fuel = 20000
		}
		whole := impl.Run(m, impl.MaxHeap, fuel, nil)
		least := leastHeap(m, fuel)
		heaps := []int{0, impl.MaxHeap}
		for heap := least - 12; heap < least+12; heap++ {
			heaps = append(heaps, heap)
		}
		for range 10 {
			heaps = append(heaps, r.Intn(least+60))
		}
		for _, heap := range heaps {
			forced := madeForced(r, whole.Steps)
			if heap < 0 || heap > impl.MaxHeap {
				continue
			}
			o := impl.Run(m, heap, fuel, forced)
			if (o.Code == impl.CodeMemory) != (heap < least) || heap >= least && !sameShown(o, whole) {
				t.Fatalf("heap %d, least %d, fuel %d, forced %s: %s, want %s for\n%s", heap, least, fuel, brief(forced), shown(o), shown(whole), impl.ListModule(m))
			}
			tally.count(o, forced)
		}
	}
	tally.checkCodes(t, 20, runCodes...)
	if tally.full < 500 {
		t.Errorf("too few runs that collect: %+v", tally)
	}
}

func TestMoreFuelShowsTheSame(t *testing.T) {
	t.Parallel()
	r := rand.New(rand.NewSource(74))
	var tally runTally
	for _, m := range promiseModules(t, r, 1000) {
		heap := r.Intn(200)
		forced := madeForced(r, 300)
		whole := impl.Run(m, heap, impl.MaxFuel, forced)
		tally.count(whole, forced)
		for _, fuel := range []int{0, 1, 2, whole.Steps - 1, whole.Steps, whole.Steps + 1, r.Intn(whole.Steps + 1), whole.Steps + r.Intn(1000), impl.MaxFuel - 1} {
			if fuel < 0 || fuel > impl.MaxFuel {
				continue
			}
			o := impl.Run(m, heap, fuel, forced)
			if fuel >= whole.Steps && whole.Code != impl.CodeFuel && !sameOutcome(o, whole) {
				t.Fatalf("fuel %d: %s, want %s for\n%s", fuel, shown(o), shown(whole), impl.ListModule(m))
			}
			if fuel < whole.Steps && (o.Code != impl.CodeFuel || o.Steps != fuel || o.Frames > whole.Frames || o.Collects > whole.Collects) {
				t.Fatalf("fuel %d: %s, want %d steps for\n%s", fuel, shown(o), fuel, impl.ListModule(m))
			}
		}
	}
	tally.checkCodes(t, 3, runCodes...)
}
