package tests

import (
	"fmt"
	"math/big"
	"strings"
	"testing"

	"loop.example/s01541/impl"
)

// valueKinds are the letters of kindMakers for values whose kind is known.
const valueKinds = "ibnspvfo"

// primOf answers a module that applies a primitive to values of these kinds.
func primOf(p int, kinds ...byte) impl.Module {
	makers := kindMakers()
	var code []impl.Ins
	for _, k := range kinds {
		code = append(code, makers[k]...)
	}
	return moduleOf(append(code, insPrim(p), insReturn), ending(0))
}

func TestPrimitivesAskForKinds(t *testing.T) {
	for p, sign := range signatures {
		args, _, _ := strings.Cut(sign, " ")
		eachRow([]byte(valueKinds), len(args), func(kinds []byte) {
			wrong := false
			for n, k := range kinds {
				wrong = wrong || args[n] != 'a' && args[n] != k
			}
			m := primOf(p, kinds...)
			o := impl.Run(m, 1000, 100, nil)
			if steps := len(m.Funcs[0].Code) - 1; wrong {
				checkOutcome(t, fmt.Sprintf("%s of %s", primitiveNames[p], kinds), o, ended(impl.CodeType, "", steps, 1, 0))
			} else if o.Code == impl.CodeType {
				t.Errorf("%s of %s: %s", primitiveNames[p], kinds, shown(o))
			}
			checkRunModel(t, m, 1000, 100, nil, &runTally{})
		})
	}
}

func TestPrimitivesThatTellKinds(t *testing.T) {
	told := map[int]byte{impl.PrimIsNull: 'n', impl.PrimIsPair: 'p', impl.PrimIsInt: 'i', impl.PrimIsSymbol: 's', impl.PrimIsProc: 'f', impl.PrimIsVector: 'v', impl.PrimNot: 'b'}
	for p, kind := range told {
		for _, k := range []byte(valueKinds) {
			o := impl.Run(primOf(p, k), 1000, 100, nil)
			if want := map[bool]string{true: "#t", false: "#f"}[k == kind]; o.Code != impl.CodeOK || string(o.Text) != want {
				t.Errorf("%s of %c: %s, want %s", primitiveNames[p], k, shown(o), want)
			}
		}
	}
	checkValue(t, "(cons (not #f) (cons (not #t) (cons (not 0) (cons (not '()) (not (if #f #f))))))", "(#t #f #f #f . #f)")
	checkValue(t, "(cons (null? #f) (cons (null? '(())) (cons (pair? (cons 1 2)) (cons (pair? '()) (vector? '(1))))))", "(#f #f #t #f . #f)")
	checkValue(t, "(cons (symbol? (car '(a))) (cons (fixnum? "+least+") (cons (procedure? 'car) (vector? (make-vector 0 0)))))", "(#t #t #f . #t)")
}

func TestEq(t *testing.T) {
	for _, a := range []byte(valueKinds) {
		for _, b := range []byte(valueKinds) {
			// A constant is one object; vectors and procedures are made twice.
			want := map[bool]string{true: "#t", false: "#f"}[a == b && a != 'v' && a != 'f']
			if o := impl.Run(primOf(impl.PrimEq, a, b), 1000, 100, nil); o.Code != impl.CodeOK || string(o.Text) != want {
				t.Errorf("eq? of %c and %c: %s, want %s", a, b, shown(o), want)
			}
		}
	}
	for src, text := range map[string]string{
		"(eq? 3 3)": "#t", "(eq? 3 4)": "#f", "(eq? #t #t)": "#t", "(eq? #t #f)": "#f", "(eq? 'a 'a)": "#t", "(eq? 'a 'b)": "#f", "(eq? '() '())": "#t",
		"(eq? '() #f)": "#f", "(eq? 0 #f)": "#f", "(eq? 0 'a)": "#f", "(eq? (if #f 1) (if #f 2))": "#t", "(eq? (- 5 2) 3)": "#t", "(eq? (= 1 1) #t)": "#t",
		"(eq? '(1) '(1))": "#t", "(eq? '(1) '(2))": "#f", "(eq? (cons 1 2) (cons 1 2))": "#f", "(eq? (cdr '(1 2)) '(2))": "#f", "(eq? (car '((2))) '(2))": "#f",
		"(eq? (make-vector 0 0) (make-vector 0 0))": "#f", "(eq? (make-vector 1 0) (make-vector 1 0))": "#f", "(eq? (lambda () 1) (lambda () 1))": "#f",
		"(let ((x (cons 1 2))) (eq? x x))": "#t", "(let ((x (cons 1 2))) (eq? (car (cons x 1)) x))": "#t", "(let ((x (make-vector 0 0))) (eq? x x))": "#t",
		"(let ((x (lambda () 1))) (eq? x x))": "#t", "(let ((x (cons 1 2))) (let ((v (make-vector 2 x))) (eq? (vector-ref v 0) (vector-ref v 1))))": "#t",
		"(define f (lambda () (lambda () 1))) (eq? (f) (f))": "#f", "(define f (lambda () '(1))) (eq? (f) (f))": "#t", "(let ((x 5)) (let ((f (lambda () x))) (eq? x (f))))": "#t",
		"(eq? " + greatest + " " + least + ")": "#f", "(eq? " + least + " " + least + ")": "#t",
	} {
		checkValue(t, src, text)
	}
	// Two constants of the same data are two objects.
	m := impl.Module{Consts: [][]impl.Datum{row(list(1), num(1)), row(list(1), num(1))}, Funcs: []impl.Func{function(0, nil,
		ins(impl.InsConst, 0), ins(impl.InsConst, 1), insPrim(impl.PrimEq), ins(impl.InsConst, 1), ins(impl.InsConst, 1), insPrim(impl.PrimEq), insPrim(impl.PrimCons), insReturn)}}
	checkOutcome(t, "two constants", impl.Run(m, 9, 10, nil), ended(impl.CodeOK, "(#f . #t)", 8, 1, 0))
	// An object stays itself, and no other, when others are let go.
	src := "(define keep (cons 1 2)) (define old (lambda () keep)) (cons 3 4) (cons 5 6) (define new (cons 1 2)) (cons (eq? keep (old)) (eq? keep new))"
	for heap := 11; heap < 24; heap++ {
		if o := impl.Run(compiled(t, src), heap, 100, []int{5, 9}); o.Code != impl.CodeOK || string(o.Text) != "(#t . #f)" {
			t.Errorf("with %d words: %s", heap, shown(o))
		}
	}
}

// edgeInts are numbers at which results begin to be no small ints.
func edgeInts() []int {
	var list []int
	for _, n := range []int{0, 1, 2, 3, 7, 10, 1 << 30, 1<<30 - 1, 1 << 31, 1<<31 - 1, 1 << 32, 1 << 33, 1 << 60, 1<<60 + 1,
		1 << 59, 1518500249, 1518500250, impl.MaxInt, impl.MaxInt - 1, impl.MaxInt / 3, impl.MaxInt / 7} {
		list = append(list, n, -n)
	}
	return append(list, -impl.MaxInt-1, -(impl.MaxInt+1)/2, 1<<62/3, 5764607523034234880/4, 1152921504606846977)
}

// intPrim answers a module that applies a primitive to two numbers.
func intPrim(p, a, b int) impl.Module {
	return impl.Module{Consts: [][]impl.Datum{row(num(a)), row(num(b))}, Funcs: []impl.Func{function(0, nil,
		ins(impl.InsConst, 0), ins(impl.InsConst, 1), insPrim(p), insReturn)}}
}

func TestArithmetic(t *testing.T) {
	list := edgeInts()
	codes := map[int]int{}
	for p := range impl.PrimLess + 1 {
		for _, a := range list {
			for _, b := range list {
				want := ended(impl.CodeOK, "", 4, 1, 0)
				switch p {
				case impl.PrimEqual:
					want.Text = []byte(map[bool]string{true: "#t", false: "#f"}[a == b])
				case impl.PrimLess:
					want.Text = []byte(map[bool]string{true: "#t", false: "#f"}[a < b])
				default:
					n, code := modelArithmetic(primitiveNames[p], a, b)
					want.Text = []byte(fmt.Sprint(n))
					if code != goesOn {
						want = ended(code, "", 3, 1, 0)
					}
				}
				codes[want.Code]++
				checkOutcome(t, fmt.Sprintf("%s of %d and %d", primitiveNames[p], a, b), impl.Run(intPrim(p, a, b), 0, 10, nil), want)
			}
		}
	}
	if codes[impl.CodeOverflow] < 500 || codes[impl.CodeZero] < 50 || codes[impl.CodeOK] < 5000 {
		t.Errorf("too few of a kind: %v", codes)
	}
}

func TestProductsAtTheEnds(t *testing.T) {
	// For each factor the other one with which the product is just a small int,
	// and the next.
	end := new(big.Int).Lsh(big.NewInt(1), 61)
	for _, a := range []int{2, 3, 5, 7, 1000, 1<<20 + 1, 1<<31 + 7, 1 << 40, 1<<60 - 1, 1518500249} {
		most := new(big.Int).Div(new(big.Int).Sub(end, big.NewInt(1)), big.NewInt(int64(a))).Int64()
		least := -new(big.Int).Div(end, big.NewInt(int64(a))).Int64()
		for b, code := range map[int]int{int(most): impl.CodeOK, int(most) + 1: impl.CodeOverflow, int(least): impl.CodeOK, int(least) - 1: impl.CodeOverflow} {
			for _, m := range []impl.Module{intPrim(impl.PrimMul, a, b), intPrim(impl.PrimMul, b, a)} {
				o := impl.Run(m, 0, 10, nil)
				if o.Code != code || code == impl.CodeOK && string(o.Text) != fmt.Sprint(a*b) {
					t.Errorf("%d times %d: %s, want code %d", a, b, shown(o), code)
				}
			}
		}
	}
	for src, code := range map[string]int{
		"(* 4294967296 4294967296)": impl.CodeOverflow, "(* 8589934592 2147483648)": impl.CodeOverflow, "(* 4294967296 536870912)": impl.CodeOverflow,
		"(* -4294967296 536870912)": impl.CodeOK, "(* 4294967296 -536870912)": impl.CodeOK, "(* 4294967297 4294967297)": impl.CodeOverflow,
		"(* " + least + " -1)": impl.CodeOverflow, "(* -1 " + least + ")": impl.CodeOverflow, "(* " + least + " 1)": impl.CodeOK, "(* 1 " + least + ")": impl.CodeOK,
		"(* " + greatest + " " + greatest + ")": impl.CodeOverflow, "(* " + least + " " + least + ")": impl.CodeOverflow, "(* " + least + " 0)": impl.CodeOK, "(* 0 " + least + ")": impl.CodeOK,
		"(* " + greatest + " -1)": impl.CodeOK, "(* 1152921504606846976 16)": impl.CodeOverflow, "(* 1152921504606846976 -2)": impl.CodeOK, "(* 1152921504606846976 32)": impl.CodeOverflow,
	} {
		if o := impl.Run(compiled(t, src), 0, 10, nil); o.Code != code {
			t.Errorf("%s: %s, want code %d", src, shown(o), code)
		}
	}
}

func TestDivisions(t *testing.T) {
	for src, text := range map[string]string{
		"(quotient 7 2)": "3", "(quotient -7 2)": "-3", "(quotient 7 -2)": "-3", "(quotient -7 -2)": "3", "(quotient 0 5)": "0",
		"(quotient 1 2)": "0", "(quotient -1 2)": "0",
		"(remainder 7 2)": "1", "(remainder -7 2)": "-1", "(remainder 7 -2)": "1", "(remainder -7 -2)": "-1", "(remainder 0 -5)": "0", "(remainder 6 3)": "0", "(remainder -6 3)": "0",
		"(remainder " + least + " -1)": "0", "(remainder " + least + " 2)": "0", "(quotient " + least + " 1)": least, "(quotient " + greatest + " -1)": "-" + greatest,
		"(quotient " + least + " " + least + ")": "1", "(remainder " + least + " " + greatest + ")": "-1", "(quotient " + least + " " + greatest + ")": "-1", "(remainder 5 " + least + ")": "5",
	} {
		checkValue(t, src, text)
	}
	for _, word := range []string{"quotient", "remainder"} {
		for _, n := range []string{"0", "1", "-1", least, greatest} {
			checkRun(t, "("+word+" "+n+" 0)", impl.CodeZero, "")
		}
		checkRun(t, "("+word+" 'a 0)", impl.CodeType, "")
		checkRun(t, "("+word+" 0 'a)", impl.CodeType, "")
	}
	checkRun(t, "(quotient "+least+" -1)", impl.CodeOverflow, "")
}

func TestMakeVector(t *testing.T) {
	for _, size := range []int{-impl.MaxInt - 1, -1000, -2, -1, 0, 1, 2, 999, impl.MaxVector, impl.MaxVector + 1, impl.MaxVector + 2, 1 << 32, 1<<60 + 1, impl.MaxInt} {
		src := fmt.Sprintf("(make-vector %d 'a)", size)
		if size < 0 || size > impl.MaxVector {
			for _, heap := range []int{0, 3, impl.MaxHeap} {
				checkOutcome(t, src, impl.Run(compiled(t, src), heap, 100, nil), ended(impl.CodeIndex, "", 3, 1, 0))
			}
			continue
		}
		whole := "#(" + strings.TrimSpace(strings.Repeat("a ", size)) + ")"
		checkOutcome(t, src, impl.Run(compiled(t, src), size+1, 100, nil), ended(impl.CodeOK, whole[:min(len(whole), impl.MaxShow)], 4, 1, 0))
		checkOutcome(t, src, impl.Run(compiled(t, src), size, 100, nil), ended(impl.CodeMemory, "", 3, 1, 1))
		checkValue(t, "(vector-length "+src+")", fmt.Sprint(size))
	}
	checkRun(t, "(make-vector 'a 0)", impl.CodeType, "")
	checkValue(t, "(let ((v (make-vector 3 0))) (vector-set! v 1 5) v)", "#(0 5 0)")
	checkValue(t, "(let ((v (make-vector 2 (make-vector 1 0)))) (vector-set! (vector-ref v 0) 0 5) v)", "#(#(5) #(5))")
}

func TestVectorIndexes(t *testing.T) {
	for _, size := range []int{0, 1, 2, 7, impl.MaxVector} {
		for _, index := range []int{-impl.MaxInt - 1, -size - 1, -2, -1, 0, 1, size - 1, size, size + 1, 1000, 1001, 1 << 32, impl.MaxInt} {
			code := impl.CodeOK
			if index < 0 || index >= size {
				code = impl.CodeIndex
			}
			ref := fmt.Sprintf("(vector-ref (make-vector %d 'a) %d)", size, index)
			set := fmt.Sprintf("(vector-set! (make-vector %d 'a) %d 5)", size, index)
			both := fmt.Sprintf("(let ((v (make-vector %d 'a))) (vector-set! v %d 'b) (cons (vector-ref v %d) (vector-length v)))", size, index, index)
			steps := map[int]int{impl.CodeOK: 1}[code]
			checkOutcome(t, ref, impl.Run(compiled(t, ref), 1001, 100, nil), ended(code, map[int]string{impl.CodeOK: "a"}[code], 5+steps, 1, 0))
			checkOutcome(t, set, impl.Run(compiled(t, set), 1001, 100, nil), ended(code, map[int]string{impl.CodeOK: "#void"}[code], 6+steps, 1, 0))
			checkRun(t, both, code, map[int]string{impl.CodeOK: fmt.Sprintf("(b . %d)", size)}[code])
		}
	}
	checkRun(t, "(vector-set! '(1) 0 1)", impl.CodeType, "")
	checkRun(t, "(vector-ref (make-vector 1 0) 'a)", impl.CodeType, "")
	checkRun(t, "(vector-set! (make-vector 1 0) #f 1)", impl.CodeType, "")
	checkRun(t, "(vector-ref (make-vector 1 0) -1)", impl.CodeIndex, "")
	checkValue(t, "(define v (make-vector 3 0)) (vector-set! v 0 1) (vector-set! v 1 2) (vector-set! v 2 3) (define w v) (vector-set! w 1 v) (vector-ref (vector-ref v 1) 2)", "3")
}

func TestPairs(t *testing.T) {
	for src, text := range map[string]string{
		"(car (cons 1 2))": "1", "(cdr (cons 1 2))": "2", "(car '(1 2 3))": "1", "(cdr '(1 2 3))": "(2 3)", "(cdr '(1))": "()", "(car '(()))": "()",
		"(let ((x (cons 1 2))) (cons x x))": "((1 . 2) 1 . 2)", "(car (cdr (cdr '(1 2 3))))": "3", "(cons 'quote '(a))": "(quote a)",
	} {
		checkValue(t, src, text)
	}
	for _, word := range []string{"car", "cdr"} {
		for _, arg := range []string{"'()", "5", "'a", "#f", "(make-vector 2 0)", "(lambda () 1)", "(if #f 1)"} {
			checkRun(t, "("+word+" "+arg+")", impl.CodeType, "")
		}
	}
}
