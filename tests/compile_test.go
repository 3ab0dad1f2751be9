package tests

import (
	"slices"
	"strings"
	"testing"

	"loop.example/s01541/impl"
)

// compiled answers the module of a source, which must be well-formed and safe.
func compiled(t *testing.T, src string) impl.Module {
	t.Helper()
	data := programOf(src)
	m, code := impl.Compile(data)
	if code != impl.CodeOK {
		t.Errorf("%.200q: code %d", src, code)
		return m
	}
	if !impl.ValidModule(m) {
		t.Errorf("%.200q: not well-formed", src)
	}
	checkSafe(t, src, m)
	if names := impl.Unbound(data); len(names) != 0 {
		t.Errorf("%.200q: unbound %q", src, names)
	}
	return m
}

// shortCode writes the functions of a module: Params and Free in brackets, then
// the instructions with their operands.
func shortCode(m impl.Module) string {
	var words []string
	for _, text := range strings.Split(string(impl.ListModule(m)), "\n") {
		fields := strings.Fields(text)
		if strings.HasPrefix(text, "func") {
			words = append(words, "["+strings.Join(fields[2:], " ")+"]")
		} else if strings.HasPrefix(text, "  ") {
			words = append(words, fields[1]+strings.Join(fields[2:], "/"))
		}
	}
	return strings.Join(words, " ")
}

func checkCode(t *testing.T, src, want string) {
	t.Helper()
	if got := shortCode(compiled(t, src)); got != want {
		t.Errorf("%q:\n%s, want\n%s", src, got, want)
	}
}

func checkConsts(t *testing.T, src, want string) {
	t.Helper()
	var texts []string
	for _, c := range compiled(t, src).Consts {
		texts = append(texts, strings.TrimSpace(string(impl.WriteData(c))))
	}
	if got := strings.Join(texts, " "); got != want {
		t.Errorf("%q: constants %s, want %s", src, got, want)
	}
}

func TestCompileForms(t *testing.T) {
	checkCode(t, "", "[0] void return")
	checkCode(t, "1", "[0] const0 return")
	checkCode(t, "1 #t 'a", "[0] const0 pop const1 pop const2 return")
	checkCode(t, "(define x 1)", "[0] const0 setglobal0 void return")
	checkCode(t, "1 (define x 2)", "[0] const0 pop const1 setglobal0 void return")
	checkCode(t, "(define x 1) x", "[0] const0 setglobal0 global0 return")
	checkCode(t, "x (define x 1)", "[0] global0 pop const0 setglobal0 void return")
	checkCode(t, "(define x x)", "[0] global0 setglobal0 void return")
	checkCode(t, "(define x 1) (define x 2) x", "[0] const0 setglobal0 const1 setglobal0 global0 return")
	checkCode(t, "b (define a 1) (define b 2)", "[0] global1 pop const0 setglobal0 const1 setglobal1 void return")
	checkCode(t, "(define b 1) (define a b) (define b a)", "[0] const0 setglobal0 global0 setglobal1 global1 setglobal0 void return")
	checkCode(t, "(define f 1) (define x (f)) (f)", "[0] const0 setglobal0 global0 call0 setglobal1 global0 tail0")
	for src, want := range map[string]int{"1": 0, "(define x 1)": 1, "(define x 1) (define y 1) (define x 1)": 2} {
		if m := compiled(t, src); m.Globals != want {
			t.Errorf("%q: %d globals, want %d", src, m.Globals, want)
		}
	}
}

func TestCompileCalls(t *testing.T) {
	checkCode(t, "(1 2)", "[0] const0 const1 tail1")
	checkCode(t, "(#t)", "[0] const0 tail0")
	checkCode(t, "((1) 2)", "[0] const0 call0 const1 tail1")
	checkCode(t, "((1) 2) 3", "[0] const0 call0 const1 call1 pop const2 return")
	checkCode(t, "('a 1 2 3)", "[0] const0 const1 const2 const3 tail3")
	checkCode(t, "((lambda (x) x) 1)", "[0] closure1/0 const0 tail1 [1] local0 return")
	checkCode(t, "(cons 1 (2 3))", "[0] const0 const1 const2 call1 primcons return")
	checkCode(t, "(begin (1) (2))", "[0] const0 call0 pop const1 tail0")
	checkCode(t, "(not (begin (1) (2)))", "[0] const0 call0 pop const1 call0 primnot return")
	checkCode(t, "(lambda () (1) (2))", "[0] closure1/0 return [0] const0 call0 pop const1 tail0")
}

func TestCompilePrimitives(t *testing.T) {
	for n, name := range primitiveNames {
		args := strings.Repeat(" 1", primitiveArgs[n])
		values := strings.Repeat("const0 ", primitiveArgs[n])
		checkCode(t, "("+name+args+")", "[0] "+values+"prim"+name+" return")
		checkCode(t, "("+name+args+") 1", "[0] "+values+"prim"+name+" pop const0 return")
		if m := compiled(t, "("+name+args+")"); !slices.Contains(m.Funcs[0].Code, insPrim(n)) {
			t.Errorf("%s is not primitive %d", name, n)
		}
	}
}

func TestCompileScopes(t *testing.T) {
	checkCode(t, "(let ((x 1)) (let ((x x)) x))", "[0] const0 local0 local1 return")
	checkCode(t, "(let ((x 1)) (letrec ((x x)) x))", "[0] const0 box1 local1 local1 unbox setbox local1 unbox return")
	checkCode(t, "(lambda (x) (lambda (x) x))", "[0] closure1/0 return [1] closure2/0 return [1] local0 return")
	checkCode(t, "(define x 1) (let ((x x)) x)", "[0] const0 setglobal0 global0 local0 return")
	checkCode(t, "(define x 1) (letrec ((x x)) x)", "[0] const0 setglobal0 box1 local0 local0 unbox setbox local0 unbox return")
	checkCode(t, "(define x 1) (let ((x 2)) x) x", "[0] const0 setglobal0 const1 local0 slide1 pop global0 return")
	checkCode(t, "(define x 1) (let ((y x) (x 2)) y)", "[0] const0 setglobal0 global0 const1 local0 return")
	checkCode(t, "(let ((x 1) (y 2)) (let ((x y) (y x)) x))", "[0] const0 const1 local1 local0 local2 return")
	checkCode(t, "(let ((x 1)) (cons (let ((x 2)) x) x))", "[0] const0 const1 local1 slide1 local0 primcons return")
	checkCode(t, "(let ((x 1)) (let ((f (lambda () x)) (x 2)) x))",
		"[0] const0 local0 closure1/1 const1 local2 return [0 any] free0 return")
	checkCode(t, "(let ((if 1)) (if 2 3 4 5))", "[0] const0 local0 const1 const2 const3 const4 tail4")
	checkCode(t, "(let ((car 1)) (car 2 3)) (car 4)", "[0] const0 local0 const1 const2 call2 slide1 pop const3 primcar return")
	checkCode(t, "(define car 1) (car 2 3)", "[0] const0 setglobal0 global0 const1 const2 tail2")
	checkCode(t, "(car 2 3) (define car 1)", "[0] global0 const0 const1 call2 pop const2 setglobal0 void return")
	checkCode(t, "(let ((quote 1)) '2)", "[0] const0 local0 const1 tail1")
	checkCode(t, "(letrec ((let (let 1))) let)", "[0] box1 local0 local0 unbox const0 call1 setbox local0 unbox return")
}

func TestCompileSet(t *testing.T) {
	checkCode(t, "(lambda (x) (set! x 1))", "[0] closure1/0 return [1] local0 box0 local1 const0 setbox void return")
	checkCode(t, "(lambda (x) (set! x x) 2)",
		"[0] closure1/0 return [1] local0 box0 local1 local1 unbox setbox void pop const0 return")
	checkCode(t, "(lambda (x y z) (set! z 1) (set! x y))",
		"[0] closure1/0 return [3] local0 box0 local2 box0 local4 const0 setbox void pop local3 local1 setbox void return")
	checkCode(t, "(let ((x 1)) (set! x 2))", "[0] const0 box0 local0 const1 setbox void return")
	checkCode(t, "(let ((x 1) (y 2)) (set! y x))", "[0] const0 const1 box0 local1 local0 setbox void return")
	checkCode(t, "(cons 1 (let ((x 1)) (set! x 2)))", "[0] const0 const0 box0 local1 const1 setbox void slide1 primcons return")
	checkCode(t, "(let ((x 1)) (lambda () (set! x x)))",
		"[0] const0 box0 local0 closure1/1 return [0 box] free0 free0 unbox setbox void return")
	checkCode(t, "(let ((x 1)) (cons x (lambda () (set! x 2))))",
		"[0] const0 box0 local0 unbox local0 closure1/1 primcons return [0 box] free0 const1 setbox void return")
	checkCode(t, "(lambda (x) (let ((x x)) (set! x 1)))", "[0] closure1/0 return [1] local0 box0 local1 const0 setbox void return")
	checkCode(t, "(lambda (x) (lambda (x) (set! x 1)) x)",
		"[0] closure1/0 return [1] closure2/0 pop local0 return [1] local0 box0 local1 const0 setbox void return")
	checkCode(t, "(letrec ((x 1)) (set! x 2))", "[0] box1 local0 const0 setbox local0 const1 setbox void return")
	checkCode(t, "(define g 1) (set! g g)", "[0] const0 setglobal0 global0 setglobal0 void return")
	checkCode(t, "(define g 1) (not (set! g 2))", "[0] const0 setglobal0 const1 setglobal0 void primnot return")
	checkCode(t, "(define g 1) (lambda () (set! g 2))", "[0] const0 setglobal0 closure1/0 return [0] const1 setglobal0 void return")
	checkCode(t, "(set! g 1) (define g 2)", "[0] const0 setglobal0 void pop const1 setglobal0 void return")
}

func TestCompileCaptured(t *testing.T) {
	checkCode(t, "(lambda () 1)", "[0] closure1/0 return [0] const0 return")
	checkCode(t, "(define g 1) (lambda () g)", "[0] const0 setglobal0 closure1/0 return [0] global0 return")
	checkCode(t, "(let ((x 1)) (lambda () x))", "[0] const0 local0 closure1/1 return [0 any] free0 return")
	checkCode(t, "(let ((x 1)) (not (lambda () x)))", "[0] const0 local0 closure1/1 primnot return [0 any] free0 return")
	checkCode(t, "(lambda (a b c) (lambda () (cons c (cons a (cons c b)))))",
		"[0] closure1/0 return [3] local2 local0 local1 closure2/3 return "+
			"[0 any any any] free0 free1 free0 free2 primcons primcons primcons return")
	checkCode(t, "(lambda (a b) (lambda () (lambda () b) a))",
		"[0] closure1/0 return [2] local1 local0 closure2/2 return [0 any any] free0 closure3/1 pop free1 return [0 any] free0 return")
	checkCode(t, "(lambda (a b) (lambda () a (lambda () b a)))",
		"[0] closure1/0 return [2] local0 local1 closure2/2 return [0 any any] free0 pop free1 free0 closure3/2 return "+
			"[0 any any] free0 pop free1 return")
	checkCode(t, "(lambda (a) (lambda () (lambda () a)))",
		"[0] closure1/0 return [1] local0 closure2/1 return [0 any] free0 closure3/1 return [0 any] free0 return")
	checkCode(t, "(lambda (a) (lambda (b) (lambda (c) (cons b (cons a c)))))",
		"[0] closure1/0 return [1] local0 closure2/1 return [1 any] local0 free0 closure3/2 return "+
			"[1 any any] free0 free1 local0 primcons primcons return")
	checkCode(t, "(lambda (a b) (lambda () (set! b a)))",
		"[0] closure1/0 return [2] local1 box0 local2 local0 closure2/2 return [0 box any] free0 free1 setbox void return")
	checkCode(t, "(let ((a 1)) (lambda () (lambda () (set! a 2))))",
		"[0] const0 box0 local0 closure1/1 return [0 box] free0 closure2/1 return [0 box] free0 const1 setbox void return")
	checkCode(t, "(letrec ((f (lambda (n) (f n)))) (f 1))",
		"[0] box1 local0 local0 closure1/1 setbox local0 unbox const0 tail1 [1 box] free0 unbox local0 tail1")
	checkCode(t, "(lambda (a) (let ((b a)) (lambda () (let ((a b)) a))))",
		"[0] closure1/0 return [1] local0 local1 closure2/1 return [0 any] free0 local0 return")
	checkCode(t, "(lambda (a) (lambda () a) (lambda () a))",
		"[0] closure1/0 return [1] local0 closure2/1 pop local0 closure3/1 return [0 any] free0 return [0 any] free0 return")
}

func TestCompileNumbersOfFunctions(t *testing.T) {
	checkCode(t, "(lambda () (lambda () 1)) (lambda () 2)",
		"[0] closure1/0 pop closure3/0 return [0] closure2/0 return [0] const0 return [0] const1 return")
	checkCode(t, "(cons (lambda () 1) (define-not (lambda () 2) 3)) (define define-not (lambda () 4))",
		"[0] closure1/0 global0 closure2/0 const2 call2 primcons pop closure3/0 setglobal0 void return "+
			"[0] const0 return [0] const1 return [0] const3 return")
	checkCode(t, "((lambda (x) 1) (lambda () 2))", "[0] closure1/0 closure2/0 tail1 [1] const0 return [0] const1 return")
}

func TestCompileConstants(t *testing.T) {
	checkConsts(t, "", "")
	checkConsts(t, "(define x 1) x", "1")
	checkConsts(t, "1 2 1 '2 '1", "1 2")
	checkConsts(t, "(cons (lambda () 2 1) 3) 1", "2 1 3")
	checkConsts(t, "(and) (or) #t #f", "#t #f")
	checkConsts(t, "(and 1 2) 3 (and 4 5)", "1 2 #f 3 4 5")
	checkConsts(t, "#f (and 1 2)", "#f 1 2")
	checkConsts(t, "'(a 1) '(a 2) '(a 1) '(b 1) '(a (1)) '((a) 1) '(a 1 #t) '(a 1 #f) 'a '(a) '() '(()) '((a 1))",
		"(a 1) (a 2) (b 1) (a (1)) ((a) 1) (a 1 #t) (a 1 #f) a (a) () (()) ((a 1))")
	checkConsts(t, "'-1 '- '+1 1 '+ '--1", "-1 - +1 1 + --1")
	checkConsts(t, "''a 'quote '(quote a) '(quote)", "(quote a) quote (quote)")
	checkConsts(t, "'"+greatest+" "+least+" "+greatest, greatest+" "+least)
	checkConsts(t, "(if #t 1)", "#t 1")
	checkConsts(t, "(letrec ((x 1)) (set! x 2))", "1 2")
	checkCode(t, "1 2 1", "[0] const0 pop const1 pop const0 return")
	checkCode(t, "(not (and 1 #f 2)) #f", "[0] const0 jumpfalse6 const1 jumpfalse6 const2 jump7 const1 primnot pop const1 return")
}

func TestCompileIf(t *testing.T) {
	checkCode(t, "(if 1 2)", "[0] const0 jumpfalse4 const1 return void return")
	checkCode(t, "(if 1 2 3)", "[0] const0 jumpfalse4 const1 return const2 return")
	checkCode(t, "(not (if 1 2))", "[0] const0 jumpfalse4 const1 jump5 void primnot return")
	checkCode(t, "(not (if 1 2 3))", "[0] const0 jumpfalse4 const1 jump5 const2 primnot return")
	checkCode(t, "(if (if 1 2 3) 4 5)",
		"[0] const0 jumpfalse4 const1 jump5 const2 jumpfalse8 const3 return const4 return")
	checkCode(t, "(if 1 (if 2 3) 4)", "[0] const0 jumpfalse8 const1 jumpfalse6 const2 return void return const3 return")
	checkCode(t, "(not (if 1 (if 2 3) 4))",
		"[0] const0 jumpfalse8 const1 jumpfalse6 const2 jump7 void jump9 const3 primnot return")
	checkCode(t, "(define f 1) (if (f) (f 1) (f 2))",
		"[0] const0 setglobal0 global0 call0 jumpfalse8 global0 const0 tail1 global0 const1 tail1")
}

func TestCompileAndOr(t *testing.T) {
	checkCode(t, "(and)", "[0] const0 return")
	checkCode(t, "(or)", "[0] const0 return")
	checkCode(t, "(cons (and) (or))", "[0] const0 const1 primcons return")
	checkCode(t, "(and 1)", "[0] const0 return")
	checkCode(t, "(or 1)", "[0] const0 return")
	checkCode(t, "(cons (and 1) (or 2))", "[0] const0 const1 primcons return")
	checkCode(t, "(and (1))", "[0] const0 tail0")
	checkCode(t, "(or (1))", "[0] const0 tail0")
	checkCode(t, "(and 1 2)", "[0] const0 jumpfalse4 const1 return const2 return")
	checkCode(t, "(and (1) (2))", "[0] const0 call0 jumpfalse5 const1 tail0 const2 return")
	checkCode(t, "(not (and 1 2 3))", "[0] const0 jumpfalse6 const1 jumpfalse6 const2 jump7 const3 primnot return")
	checkCode(t, "(or 1 2)", "[0] const0 local0 jumpfalse4 return pop const1 return")
	checkCode(t, "(or (1) (2))", "[0] const0 call0 local0 jumpfalse5 return pop const1 tail0")
	checkCode(t, "(or 1 2 3)", "[0] const0 local0 jumpfalse4 return pop const1 local0 jumpfalse9 return pop const2 return")
	checkCode(t, "(not (or 1 2 3))",
		"[0] const0 local0 jumpfalse4 jump11 pop const1 local0 jumpfalse9 jump11 pop const2 primnot return")
	checkCode(t, "(or 1 (or 2 3))", "[0] const0 local0 jumpfalse4 return pop const1 local0 jumpfalse9 return pop const2 return")
	checkCode(t, "(not (or (or 1 2) 3))",
		"[0] const0 local0 jumpfalse4 jump6 pop const1 local0 jumpfalse9 jump11 pop const2 primnot return")
	checkCode(t, "(not (and (or 1 2) 3))",
		"[0] const0 local0 jumpfalse4 jump6 pop const1 jumpfalse9 const2 jump10 const3 primnot return")
	checkCode(t, "(or (and 1 2) 3)",
		"[0] const0 jumpfalse4 const1 jump5 const2 local0 jumpfalse8 return pop const3 return")
	checkCode(t, "(cons 1 (or 2 3))", "[0] const0 const1 local1 jumpfalse5 jump7 pop const2 primcons return")
	checkCode(t, "(let ((x 1)) (or x 2))", "[0] const0 local0 local1 jumpfalse5 return pop const1 return")
	checkCode(t, "(lambda (a b) (or a b))", "[0] closure1/0 return [2] local0 local2 jumpfalse4 return pop local1 return")
}

func TestCompileLet(t *testing.T) {
	checkCode(t, "(let () 1)", "[0] const0 return")
	checkCode(t, "(not (let () 1))", "[0] const0 slide0 primnot return")
	checkCode(t, "(letrec () 1)", "[0] const0 return")
	checkCode(t, "(not (letrec () 1))", "[0] const0 slide0 primnot return")
	checkCode(t, "(let ((x 1)) x 2 x)", "[0] const0 local0 pop const1 pop local0 return")
	checkCode(t, "(let ((x 1)) (x))", "[0] const0 local0 tail0")
	checkCode(t, "(letrec ((x 1)) (x))", "[0] box1 local0 const0 setbox local0 unbox tail0")
	checkCode(t, "(not (letrec ((x 1) (y 2)) (x)))",
		"[0] box1 box1 local0 const0 setbox local1 const1 setbox local0 unbox call0 slide2 primnot return")
	checkCode(t, "(let ((x 1)) x) (let ((y 2)) y)", "[0] const0 local0 slide1 pop const1 local0 return")
	checkCode(t, "(lambda (a b) (let ((c 1)) c))", "[0] closure1/0 return [2] const0 local2 return")
	checkCode(t, "(lambda (a) (set! a 1) (let ((c 2)) c))",
		"[0] closure1/0 return [1] local0 box0 local1 const0 setbox void pop const1 local2 return")
	checkCode(t, "((let ((x 1)) x) 2)", "[0] const0 local0 slide1 const1 tail1")
	checkCode(t, "(1 (let ((x 2)) x) (letrec ((y 3)) y))",
		"[0] const0 const1 local1 slide1 box1 local2 const2 setbox local2 unbox slide1 tail2")
	checkCode(t, "(cons (let ((x 1) (y 2)) y) (let ((z 3)) z))",
		"[0] const0 const1 local1 slide2 const2 local1 slide1 primcons return")
	checkCode(t, "(let ((a 1) (b (let ((c 2)) c))) b)", "[0] const0 const1 local1 slide1 local1 return")
	checkCode(t, "(let ((x 1)) (set! x (let ((y 2)) y)))", "[0] const0 box0 local0 const1 local2 slide1 setbox void return")
	checkCode(t, "(define g (let ((y 2)) y)) (set! g (let ((y 2)) y))",
		"[0] const0 local0 slide1 setglobal0 const0 local0 slide1 setglobal0 void return")
	checkCode(t, "(letrec ((f (let ((x 1)) x))) f)", "[0] box1 local0 const0 local2 slide1 setbox local0 unbox return")
	checkCode(t, "(letrec ((f 1) (g (let ((x 2)) x))) g)",
		"[0] box1 box1 local0 const0 setbox local1 const1 local3 slide1 setbox local1 unbox return")
}

func TestCompileLetBehindJumps(t *testing.T) {
	checkCode(t, "(or 1 (let ((x 2)) x))", "[0] const0 local0 jumpfalse4 return pop const1 local0 return")
	checkCode(t, "(not (or 1 (let ((x 2)) x)))",
		"[0] const0 local0 jumpfalse4 jump8 pop const1 local0 slide1 primnot return")
	checkCode(t, "(or (let ((x 1)) x) 2)", "[0] const0 local0 slide1 local0 jumpfalse6 return pop const1 return")
	checkCode(t, "(cons (or 1 2) (let ((x 3)) x))",
		"[0] const0 local0 jumpfalse4 jump6 pop const1 const2 local1 slide1 primcons return")
	checkCode(t, "(not (and 1 (let ((x 2)) x)))", "[0] const0 jumpfalse6 const1 local0 slide1 jump7 const2 primnot return")
	checkCode(t, "(cons (and 1 2) (let ((x 3)) x))",
		"[0] const0 jumpfalse4 const1 jump5 const2 const3 local1 slide1 primcons return")
	checkCode(t, "(cons (if 1 (let ((x 2)) x) (letrec ((y 3)) y)) (let ((z 4)) z))",
		"[0] const0 jumpfalse6 const1 local0 slide1 jump13 box1 local0 const2 setbox local0 unbox slide1 const3 local1 slide1 primcons return")
	checkCode(t, "(let ((a 1)) (if a (let ((b 2)) b) (let ((c 3) (d 4)) d)))",
		"[0] const0 local0 jumpfalse6 const1 local1 return const2 const3 local2 return")
	checkCode(t, "(if (let ((x 1)) x) (let ((y 2)) y))", "[0] const0 local0 slide1 jumpfalse7 const1 local0 return void return")
	checkCode(t, "(cons 1 (or 2 (let ((x 3)) (or x 4))))",
		"[0] const0 const1 local1 jumpfalse5 jump14 pop const2 local1 local2 jumpfalse11 jump13 pop const3 slide1 primcons return")
}
