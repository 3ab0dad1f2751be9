package tests

import (
	"fmt"
	"math/rand"
	"slices"
	"strings"
	"testing"

	"loop.example/s01541/impl"
)

// compileTally counts what the programs of a test have come to: codes, and
// instructions with a 1 in A apart, as these are the first that tell an order.
type compileTally struct {
	codes [impl.CodeFuel + 1]int
	ops   [18]int
	later [18]int
	boxes int
}

func (c *compileTally) count(m impl.Module, code int) {
	c.codes[code]++
	for _, f := range m.Funcs {
		for _, i := range f.Code {
			c.ops[i.Op]++
			c.later[i.Op] += min(i.A, 1)
		}
		for _, box := range f.Free {
			if box {
				c.boxes++
			}
		}
	}
}

// checkCompileModel holds a program against the model, and asks what promise 6
// says of the module itself.
func checkCompileModel(t *testing.T, trees []*tree, tally *compileTally) {
	t.Helper()
	data := flatOf(trees)
	want, wantCode, names := modelCompile(trees)
	m, code := impl.Compile(data)
	if code != wantCode || !sameModule(m, want) {
		t.Fatalf("code %d, want %d for %s\n%s\nwant\n%s", code, wantCode, impl.WriteData(data), impl.ListModule(m), impl.ListModule(want))
	}
	if code == impl.CodeOK {
		checkSafe(t, string(impl.WriteData(data)), m)
	}
	var got []string
	for _, symbol := range impl.Unbound(data) {
		got = append(got, string(symbol))
	}
	if !slices.Equal(got, names) {
		t.Fatalf("unbound %q, want %q for %s", got, names, impl.WriteData(data))
	}
	tally.count(m, code)
}

func TestCompileAllShortForms(t *testing.T) {
	heads := append([]string{"car", "cons", "vector-set!", "x", "1", "#t", "(x)", "()"}, specialWords...)
	parts := []string{"1", "x", "if", "()", "(x)", "(1)", "(x x)", "((x 1))", "((x))", "((x x 1))", "((1 x))", "((x 1) (x 2))", "(())"}
	around := []string{"%s", "%s 1", "(define x 1) %s", "(lambda (x) %s)", "(cons 1 %s)", "(let ((if 1)) %s)", "(define define 1) %s",
		"(define let x) (%s)"}
	var tally compileTally
	for _, head := range heads {
		for count := range 4 {
			eachRow(parts, count, func(row []string) {
				form := "(" + strings.Join(append([]string{head}, row...), " ") + ")"
				for n, text := range around {
					if count < 3 || n < 4 {
						checkCompileModel(t, treesOf(fmt.Sprintf(text, form)), &tally)
					}
				}
			})
		}
	}
	if tally.codes[impl.CodeOK] < 3000 || tally.codes[impl.CodeSyntax] < 50000 || tally.codes[impl.CodeUnbound] < 10000 {
		t.Errorf("too few of a kind: %+v", tally)
	}
}

// eachForest gives all rows of trees with so many data in all.
func eachForest(atoms []*tree, size int, give func([]*tree)) {
	if size == 0 {
		give(nil)
		return
	}
	for first := 1; first <= size; first++ {
		eachForest(atoms, size-first, func(rest []*tree) {
			eachTree(atoms, first, func(d *tree) {
				give(append([]*tree{d}, rest...))
			})
		})
	}
}

func eachTree(atoms []*tree, size int, give func(*tree)) {
	if size == 1 {
		for _, atom := range atoms {
			give(atom)
		}
	}
	eachForest(atoms, size-1, func(kids []*tree) {
		give(&tree{atom: list(0), kids: kids})
	})
}

func TestCompileAllSmallPrograms(t *testing.T) {
	var tally compileTally
	check := func(trees []*tree) { checkCompileModel(t, trees, &tally) }
	for size := range 6 {
		eachForest(treesOf("1 x define lambda begin or not"), size, check)
	}
	// Forms that bind are greater: there are fewer atoms, and more data.
	for size := range 8 {
		eachForest(treesOf("x lambda"), size, check)
		eachForest(treesOf("x let"), size, check)
	}
	// Below a variable and its lambda there is room for more.
	lambda := treesOf("lambda (x)")
	for size := range 6 {
		eachForest(treesOf("1 x lambda set! or"), size, func(trees []*tree) {
			check([]*tree{{atom: list(0), kids: append(slices.Clone(lambda), trees...)}})
		})
	}
	if tally.codes[impl.CodeOK] < 1000 || tally.codes[impl.CodeSyntax] < 50000 || tally.codes[impl.CodeUnbound] < 10000 {
		t.Errorf("too few of a kind: %+v", tally)
	}
}

// programMaker writes programs whose symbols are mostly bound and whose forms
// are mostly whole.
type programMaker struct {
	r     *rand.Rand
	scope []string
	odd   int // out of 100: how often something is not as it should be
}

func (p *programMaker) isOdd() bool { return p.r.Intn(100) < p.odd }

func (p *programMaker) pick(words []string) string { return words[p.r.Intn(len(words))] }

// fresh answers a name to be bound.
func (p *programMaker) fresh() string {
	if p.isOdd() {
		return p.pick(append(specialWords, primitiveNames...))
	}
	return p.pick([]string{"a", "b", "c", "d", "e", "f", "g", "h"})
}

func (p *programMaker) name() string {
	if len(p.scope) == 0 || p.isOdd() {
		return p.pick([]string{"a", "b", "g1", "g2", "if", "car", "define", "nowhere"})
	}
	// Mostly a name bound far inside: else few variables would be captured.
	inner := p.scope[len(p.scope)/2:]
	return p.pick(append(slices.Clone(inner), p.pick(p.scope)))
}

func (p *programMaker) datum(deep int) string {
	if deep == 0 || p.r.Intn(2) == 0 {
		return p.pick([]string{"0", "1", "-7", "#t", "#f", "()", "a", "if", "quote"})
	}
	return p.form(p.several(3, func() string { return p.datum(deep - 1) }))
}

// form writes a list of parts, sometimes with one too few or too many.
func (p *programMaker) form(parts []string) string {
	if p.isOdd() && len(parts) > 1 {
		at := p.r.Intn(len(parts))
		if p.r.Intn(2) == 0 {
			parts = slices.Delete(parts, at, at+1)
		} else {
			parts = slices.Insert(parts, at, p.pick([]string{"1", "a", "()", "(a 1)"}))
		}
	}
	return "(" + strings.Join(parts, " ") + ")"
}

func (p *programMaker) several(most int, part func() string) []string {
	var parts []string
	for range p.r.Intn(most + 1) {
		parts = append(parts, part())
	}
	return parts
}

// within writes parts in the scope of some names more.
func (p *programMaker) within(names []string, parts func() []string) []string {
	around := p.scope
	p.scope = append(slices.Clone(p.scope), names...)
	written := parts()
	p.scope = around
	return written
}

func (p *programMaker) names() []string {
	names := p.several(3, p.fresh)
	if !p.isOdd() {
		slices.Sort(names)
		names = slices.Compact(names)
		p.r.Shuffle(len(names), func(i, j int) { names[i], names[j] = names[j], names[i] })
	}
	return names
}

func (p *programMaker) body(deep int) []string {
	return append(p.several(2, func() string { return p.expression(deep) }), p.expression(deep))
}

func (p *programMaker) expression(deep int) string {
	value := func() string { return p.expression(deep - 1) }
	if deep == 0 {
		return p.pick([]string{p.name(), p.name(), p.name(), "'" + p.datum(1), "5", "#f"})
	}
	switch p.r.Intn(16) {
	case 0, 14:
		return p.name()
	case 1:
		return "'" + p.datum(2)
	case 2:
		return p.form(append([]string{"if", value(), value()}, p.several(1, value)...))
	case 3, 4, 5:
		names := p.names()
		return p.form(append([]string{"lambda", p.form(names)}, p.within(names, func() []string { return p.body(deep - 1) })...))
	case 6, 7:
		return p.binding("let", deep)
	case 8:
		return p.binding("letrec", deep)
	case 9:
		return p.form([]string{"set!", p.name(), value()})
	case 10:
		return p.form(append([]string{"begin"}, p.body(deep-1)...))
	case 11:
		return p.form(append([]string{p.pick([]string{"and", "or", "or"})}, p.several(3, value)...))
	case 12:
		n := p.r.Intn(len(primitiveNames))
		parts := []string{primitiveNames[n]}
		for range primitiveArgs[n] {
			parts = append(parts, value())
		}
		return p.form(parts)
	}
	return p.form(append([]string{value()}, p.several(3, value)...))
}

func (p *programMaker) binding(word string, deep int) string {
	names := p.names()
	values := func() []string {
		var bindings []string
		for _, name := range names {
			bindings = append(bindings, p.form([]string{name, p.expression(deep - 1)}))
		}
		return []string{p.form(bindings)}
	}
	body := func() []string { return p.body(deep - 1) }
	if word == "let" {
		return p.form(append([]string{word}, append(values(), p.within(names, body)...)...))
	}
	return p.form(append([]string{word}, p.within(names, func() []string { return append(values(), body()...) })...))
}

func (p *programMaker) program() string {
	globals := []string{"g1", "g2", "a", p.fresh()}[:1+p.r.Intn(4)]
	p.scope = globals
	forms := p.several(3, func() string { return p.expression(2 + p.r.Intn(4)) })
	for _, name := range globals {
		at := p.r.Intn(len(forms) + 1)
		forms = slices.Insert(forms, at, p.form([]string{"define", name, p.expression(p.r.Intn(4))}))
	}
	return strings.Join(forms, "\n")
}

func TestCompileMadePrograms(t *testing.T) {
	r := rand.New(rand.NewSource(5))
	var tally compileTally
	for n := range 8000 {
		p := programMaker{r: r, odd: []int{0, 0, 1, 4}[n%4]}
		trees := treesOf(p.program())
		if data := flatOf(trees); len(data) <= impl.MaxData {
			checkCompileModel(t, trees, &tally)
		}
	}
	if tally.codes[impl.CodeOK] < 5000 || tally.codes[impl.CodeSyntax] < 800 || tally.codes[impl.CodeUnbound] < 400 {
		t.Errorf("too few programs of a kind: %+v", tally)
	}
	for op, count := range tally.ops {
		if count < 1000 {
			t.Errorf("instruction %d comes only %d times", op, count)
		}
	}
	for _, op := range []int{impl.InsConst, impl.InsLocal, impl.InsFree, impl.InsGlobal, impl.InsSetGlobal, impl.InsBox, impl.InsSlide} {
		if tally.later[op] < 1000 {
			t.Errorf("instruction %d comes with an operand only %d times", op, tally.later[op])
		}
	}
	if tally.boxes < 1000 {
		t.Errorf("only %d boxes are captured", tally.boxes)
	}
}
