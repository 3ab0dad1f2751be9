package tests

import (
	"fmt"
	"math/rand"
	"strings"
	"testing"

	"loop.example/s01541/impl"
)

// A second make of the verifier. It first finds how many slots there are before
// each instruction, then follows each kind by itself from slot to slot, from
// where it is made to wherever it can come.

// modelPrims are the arguments and results of the primitives; letters as in
// kindMakers, and x for a box.
const modelPrims = "ii:i ii:i ii:i ii:i ii:i ii:b ii:b aa:p p:a p:a a:b a:b a:b a:b a:b a:b aa:b a:b ia:v vi:a via:o v:i"

const modelAny = "ibnspvfo"

// modelSign answers the arguments and the result of a primitive.
func modelSign(p int) (args, result string) {
	args, result, _ = strings.Cut(strings.Fields(modelPrims)[p], ":")
	return args, result
}

// modelTakes answers a letter for each slot that is taken: v for a value, x for
// a box, ? for either.
func modelTakes(m impl.Module, i impl.Ins) string {
	switch i.Op {
	case impl.InsSetGlobal, impl.InsReturn, impl.InsJumpFalse:
		return "v"
	case impl.InsBox:
		return "v"[i.A:]
	case impl.InsUnbox:
		return "x"
	case impl.InsSetBox:
		return "xv"
	case impl.InsClosure:
		text := ""
		for _, box := range m.Funcs[i.A].Free {
			text += map[bool]string{true: "x", false: "v"}[box]
		}
		return text
	case impl.InsCall, impl.InsTail:
		return "v" + strings.Repeat("v", i.A)
	case impl.InsPrim:
		args, _ := modelSign(i.A)
		return strings.Repeat("v", len(args))
	case impl.InsSlide:
		return strings.Repeat("?", i.A) + "v"
	case impl.InsPop:
		return "?"
	}
	return ""
}

// modelLeft answers the kinds of the slot that is left, "" if none is, and "="
// if it is a copy of another slot.
func modelLeft(m impl.Module, f impl.Func, i impl.Ins) string {
	switch i.Op {
	case impl.InsConst:
		d := m.Consts[i.A][0]
		if d.Kind == impl.DatList && d.Count > 0 {
			return "p"
		}
		return [4]string{"i", "b", "s", "n"}[d.Kind]
	case impl.InsFree:
		return map[bool]string{true: "x", false: modelAny}[f.Free[i.A]]
	case impl.InsGlobal, impl.InsUnbox, impl.InsCall:
		return modelAny
	case impl.InsBox:
		return "x"
	case impl.InsClosure:
		return "f"
	case impl.InsPrim:
		_, result := modelSign(i.A)
		return strings.ReplaceAll(result, "a", modelAny)
	case impl.InsVoid:
		return "o"
	case impl.InsLocal, impl.InsSlide:
		return "="
	}
	return ""
}

func modelNext(code []impl.Ins, at int) []int {
	switch i := code[at]; i.Op {
	case impl.InsTail, impl.InsReturn:
		return nil
	case impl.InsJump:
		return []int{i.A}
	case impl.InsJumpFalse:
		return []int{at + 1, i.A}
	}
	return []int{at + 1}
}

// modelCounts answers the number of slots before each instruction, -1 where no
// way leads, and whether all ways agree and find what they take.
func modelCounts(m impl.Module, f impl.Func) ([]int, bool) {
	counts := make([]int, len(f.Code))
	for at := range counts {
		counts[at] = -1
	}
	counts[0] = f.Params
	stack := []int{0}
	for len(stack) > 0 {
		at := stack[len(stack)-1]
		stack = stack[:len(stack)-1]
		i := f.Code[at]
		behind := counts[at] - len(modelTakes(m, i))
		if behind < 0 || i.Op == impl.InsLocal && i.A >= counts[at] {
			return nil, false
		}
		if modelLeft(m, f, i) != "" {
			behind++
		}
		for _, next := range modelNext(f.Code, at) {
			if next == len(f.Code) || behind > 200 || counts[next] >= 0 && counts[next] != behind {
				return nil, false
			}
			if counts[next] < 0 {
				counts[next] = behind
				stack = append(stack, next)
			}
		}
	}
	return counts, true
}

// spot is a slot before an instruction.
type spot struct{ at, slot int }

// modelSpread follows one kind through a function, from the spots where it is.
func modelSpread(m impl.Module, f impl.Func, counts []int, kind string) map[spot]bool {
	there := map[spot]bool{}
	var stack []spot
	put := func(s spot) {
		if !there[s] {
			there[s] = true
			stack = append(stack, s)
		}
	}
	for slot := range f.Params {
		if kind != "x" {
			put(spot{0, slot})
		}
	}
	for at, i := range f.Code {
		if counts[at] >= 0 && strings.Contains(modelLeft(m, f, i), kind) {
			for _, next := range modelNext(f.Code, at) {
				put(spot{next, counts[next] - 1})
			}
		}
	}
	for len(stack) > 0 {
		s := stack[len(stack)-1]
		stack = stack[:len(stack)-1]
		i := f.Code[s.at]
		copied := i.Op == impl.InsLocal && s.slot == i.A || i.Op == impl.InsSlide && s.slot == counts[s.at]-1
		for _, next := range modelNext(f.Code, s.at) {
			if s.slot < counts[s.at]-len(modelTakes(m, i)) {
				put(spot{next, s.slot})
			}
			if copied {
				put(spot{next, counts[next] - 1})
			}
		}
	}
	return there
}

// modelFunc answers what is proven in a function and whether it is safe.
func modelFunc(m impl.Module, f impl.Func) ([]bool, bool) {
	counts, ok := modelCounts(m, f)
	if !ok {
		return nil, false
	}
	spread := map[rune]map[spot]bool{}
	for _, kind := range modelAny + "x" {
		spread[kind] = modelSpread(m, f, counts, string(kind))
	}
	// beyond tells whether a slot can have a kind that is not among these.
	beyond := func(s spot, allowed string) bool {
		for kind, there := range spread {
			if there[s] && !strings.ContainsRune(allowed, kind) {
				return true
			}
		}
		return false
	}
	proven := make([]bool, len(f.Code))
	for at, i := range f.Code {
		if counts[at] < 0 {
			continue
		}
		takes := modelTakes(m, i)
		first := counts[at] - len(takes)
		for n, want := range takes {
			allowed := map[rune]string{'v': modelAny, 'x': "x", '?': modelAny + "x"}[want]
			if beyond(spot{at, first + n}, allowed) {
				return nil, false
			}
		}
		switch i.Op {
		case impl.InsCall, impl.InsTail:
			proven[at] = !beyond(spot{at, first}, "f")
		case impl.InsPrim:
			proven[at] = true
			args, _ := modelSign(i.A)
			for n, want := range args {
				if want != 'a' && beyond(spot{at, first + n}, string(want)) {
					proven[at] = false
				}
			}
		}
	}
	return proven, true
}

func modelVerify(m impl.Module) ([][]bool, int, int) {
	var all [][]bool
	for n, f := range m.Funcs {
		proven, ok := modelFunc(m, f)
		if !ok {
			return nil, impl.CodeUnsafe, n
		}
		all = append(all, proven)
	}
	return all, impl.CodeOK, 0
}

// tally counts what the modules of a test were.
type tally struct{ safe, unsafe, proven, later int }

// checkVerifyModel holds a module against the model and counts it.
func checkVerifyModel(t *testing.T, m impl.Module, count *tally) {
	t.Helper()
	proven, code, fn := impl.Verify(m)
	wantProven, wantCode, wantFn := modelVerify(m)
	if code != wantCode || fn != wantFn || marks(proven) != marks(wantProven) {
		t.Fatalf("code %d, function %d, %s; want %d, %d, %s for\n%s", code, fn, marks(proven), wantCode, wantFn,
			marks(wantProven), impl.ListModule(m))
	}
	if code == impl.CodeOK {
		count.safe++
	} else {
		count.unsafe++
	}
	if fn > 0 {
		count.later++
	}
	count.proven += strings.Count(marks(proven), "x")
}

// shortAlphabet are instructions for codes of this length; those that jump go
// to each place.
func shortAlphabet(length int) []impl.Ins {
	list := []impl.Ins{insInt, insPair, insLocal(0), insLocal(1), ins(impl.InsGlobal, 0), insWrap, insEmpty, insUnbox,
		insSetBox, ins(impl.InsClosure, 1, 1), ins(impl.InsCall, 0), ins(impl.InsCall, 1), ins(impl.InsTail, 0), insReturn,
		insPrim(impl.PrimAdd), insPrim(impl.PrimCar), insPrim(impl.PrimNot), insSlide(1), insPop}
	for to := range length {
		list = append(list, insJump(to), insFalse(to))
	}
	return list
}

func TestVerifyAllShortCodes(t *testing.T) {
	var count tally
	for length := 1; length <= 3; length++ {
		eachRow(shortAlphabet(length), length, func(code []impl.Ins) {
			checkVerifyModel(t, moduleOf(code, ending(0, true)), &count)
		})
	}
	// In a function with two parameters more of the codes find what they take.
	eachRow(shortAlphabet(3), 3, func(code []impl.Ins) {
		m := moduleOf([]impl.Ins{insVoid, insReturn}, function(2, []bool{true}, code...))
		checkVerifyModel(t, m, &count)
	})
	// Four instructions are enough for a loop that changes a slot.
	few := []impl.Ins{insInt, insVoid, insLocal(0), insEmpty, insUnbox, ins(impl.InsCall, 0), insReturn, insPrim(impl.PrimAdd),
		insPrim(impl.PrimNot), insSlide(1), insPop, insJump(0), insJump(1), insFalse(0), insFalse(2), insFalse(3)}
	eachRow(few, 4, func(code []impl.Ins) {
		m := moduleOf([]impl.Ins{insVoid, insReturn}, function(1, nil, code...))
		checkVerifyModel(t, m, &count)
	})
	if count.safe < 500 || count.unsafe < 5000 || count.proven < 100 || count.later < 500 {
		t.Errorf("too few of a kind: %+v", count)
	}
}

// codeMaker makes code that mostly finds what it takes, with ways that meet and
// ways back.
type codeMaker struct {
	r     *rand.Rand
	funcs []impl.Func
	free  []bool
	code  []impl.Ins
	slots []byte // what lies in the slots: v or x

}

func (c *codeMaker) put(op int, operands ...int) {
	c.code = append(c.code, ins(op, operands...))
}

// value adds code that leaves a value.
func (c *codeMaker) value() {
	switch c.r.Intn(9) {
	case 0, 1:
		c.put(impl.InsConst, c.r.Intn(5))
	case 2:
		c.put(impl.InsGlobal, c.r.Intn(2))
	case 3:
		c.put(impl.InsVoid)
	case 4:
		c.closure()
		return
	case 5:
		c.put(impl.InsConst, constInt)
	default:
		c.copied('v')
		return
	}
	c.slots = append(c.slots, 'v')
}

func (c *codeMaker) box() {
	if c.r.Intn(2) == 0 {
		c.put(impl.InsBox, 1)
		c.slots = append(c.slots, 'x')
		return
	}
	c.copied('x')
}

// copied adds code that leaves a slot or a captured value of this sort, or makes
// one if there is none.
func (c *codeMaker) copied(sort byte) {
	var list []impl.Ins
	for n, s := range c.slots {
		if s == sort {
			list = append(list, insLocal(n))
		}
	}
	for n, box := range c.free {
		if box == (sort == 'x') {
			list = append(list, ins(impl.InsFree, n))
		}
	}
	made := map[byte]impl.Ins{'v': insVoid, 'x': insEmpty}[sort]
	if len(list) > 0 {
		made = list[c.r.Intn(len(list))]
	}
	c.code = append(c.code, made)
	c.slots = append(c.slots, sort)
}

func (c *codeMaker) closure() {
	n := 1 + c.r.Intn(len(c.funcs)-1)
	free := c.funcs[n].Free
	for _, box := range free {
		c.copied(map[bool]byte{true: 'x', false: 'v'}[box])
	}
	c.put(impl.InsClosure, n, len(free))
	c.slots = append(c.slots[:len(c.slots)-len(free)], 'v')
}

// use adds code that takes some slots that it has made itself.
func (c *codeMaker) use() {
	height := len(c.slots)
	leaves := true
	switch c.r.Intn(8) {
	case 0:
		c.value()
		c.put(impl.InsSetGlobal, c.r.Intn(2))
		leaves = false
	case 1:
		c.box()
		c.value()
		c.put(impl.InsSetBox)
		leaves = false
	case 2:
		c.box()
		c.put(impl.InsUnbox)
	case 3:
		args := c.r.Intn(3)
		for range args + 1 {
			c.value()
		}
		c.put(impl.InsCall, args)
	case 4:
		c.value()
		c.put(impl.InsBox, 0)
		c.slots = append(c.slots[:height], 'x')
		return
	default:
		p := c.r.Intn(22)
		args, _ := modelSign(p)
		for range args {
			c.value()
		}
		c.put(impl.InsPrim, p)
	}
	c.slots = c.slots[:height]
	if leaves {
		c.slots = append(c.slots, 'v')
	}
}

// drop adds code that lets slots go.
func (c *codeMaker) drop() {
	height := len(c.slots)
	if height == 0 {
		return
	}
	if c.slots[height-1] == 'v' && c.r.Intn(2) == 0 {
		n := c.r.Intn(height)
		c.put(impl.InsSlide, n)
		c.slots = append(c.slots[:height-1-n], 'v')
		return
	}
	c.put(impl.InsPop)
	c.slots = c.slots[:height-1]
}

// level adds code that leaves as many slots as there were then. What lay in
// them may have become something else.
func (c *codeMaker) level(before []byte) {
	for len(c.slots) > len(before) {
		c.put(impl.InsPop)
		c.slots = c.slots[:len(c.slots)-1]
	}
	for len(c.slots) < len(before) {
		sort := before[len(c.slots)]
		if c.r.Intn(12) == 0 {
			sort ^= 'v' ^ 'x'
		}
		if sort == 'x' {
			c.put(impl.InsBox, 1)
			c.slots = append(c.slots, 'x')
		} else {
			c.value()
		}
	}
}

func (c *codeMaker) condition() int {
	c.value()
	c.put(impl.InsJumpFalse, 0)
	c.slots = c.slots[:len(c.slots)-1]
	return len(c.code) - 1
}

// branch adds two ways that meet.
func (c *codeMaker) branch(deep int) {
	at := c.condition()
	before := string(c.slots)
	c.block(deep)
	met := string(c.slots)
	out := len(c.code)
	c.put(impl.InsJump, 0)
	c.code[at].A = len(c.code)
	c.slots = []byte(before)
	c.block(deep)
	c.level([]byte(met))
	c.code[out].A = len(c.code)
}

// loop adds code that is gone through again and again.
func (c *codeMaker) loop(deep int) {
	begin := len(c.code)
	before := string(c.slots)
	at := c.condition()
	c.block(deep)
	c.level([]byte(before))
	c.put(impl.InsJump, begin)
	c.code[at].A = len(c.code)
	c.slots = []byte(before)
}

func (c *codeMaker) block(deep int) {
	for range c.r.Intn(5) {
		switch k := c.r.Intn(10); {
		case k < 2:
			c.value()
		case k < 3:
			c.box()
		case k < 6:
			c.use()
		case k < 7:
			c.drop()
		case k < 9 && deep > 0:
			c.branch(deep - 1)
		case deep > 0:
			c.loop(deep - 1)
		}
	}
}

func (c *codeMaker) function() []impl.Ins {
	c.block(3)
	for range c.r.Intn(3) {
		c.value()
	}
	c.value()
	if c.r.Intn(4) == 0 {
		c.put(impl.InsTail, 0)
	} else {
		c.put(impl.InsReturn)
	}
	// Some code to which no way leads.
	for range c.r.Intn(3) {
		c.put(impl.InsPop)
	}
	return c.code
}

func randomModule(r *rand.Rand) impl.Module {
	m := moduleOf(nil)
	for range 1 + r.Intn(3) {
		var free []bool
		for range r.Intn(3) {
			free = append(free, r.Intn(2) == 0)
		}
		m.Funcs = append(m.Funcs, impl.Func{Params: r.Intn(3), Free: free})
	}
	for n, f := range m.Funcs {
		c := codeMaker{r: r, funcs: m.Funcs, free: f.Free, slots: []byte(strings.Repeat("v", f.Params))}
		m.Funcs[n].Code = c.function()
	}
	return m
}

// disturb changes an instruction of a module, so that it stays well-formed.
func disturb(r *rand.Rand, m impl.Module) {
	f := m.Funcs[r.Intn(len(m.Funcs))]
	at := r.Intn(len(f.Code))
	old := f.Code[at]
	list := append(shortAlphabet(len(f.Code))[:20], insJump(r.Intn(len(f.Code))), insFalse(r.Intn(len(f.Code))), insVoid,
		insPrim(r.Intn(22)), ins(impl.InsClosure, 1, len(m.Funcs[1].Free)))
	if len(f.Free) > 0 {
		list = append(list, ins(impl.InsFree, r.Intn(len(f.Free))))
	}
	f.Code[at] = list[r.Intn(len(list))]
	if !impl.ValidModule(m) {
		f.Code[at] = old
	}
}

func TestVerifyMadeModules(t *testing.T) {
	r := rand.New(rand.NewSource(3))
	var count tally
	for range 6000 {
		m := randomModule(r)
		if !impl.ValidModule(m) {
			t.Fatalf("not well-formed: %v", m)
		}
		checkVerifyModel(t, m, &count)
		for range r.Intn(3) {
			disturb(r, m)
			checkVerifyModel(t, m, &count)
		}
	}
	if count.safe < 3000 || count.unsafe < 2000 || count.proven < 3000 || count.later < 500 {
		t.Errorf("too few of a kind: %+v", count)
	}
}

// modelList is a second make of ListModule.
func modelList(m impl.Module) string {
	words := strings.Fields("const local free global setglobal box unbox setbox closure call tail return jump jumpfalse prim slide pop void")
	names := strings.Fields("+ - * quotient remainder = < cons car cdr null? pair? fixnum? symbol? procedure? vector? eq? not make-vector vector-ref vector-set! vector-length")
	text := fmt.Sprintf("globals %d\n", m.Globals)
	for n, c := range m.Consts {
		text += fmt.Sprintf("const %d %s", n, impl.WriteData(c))
	}
	for n, f := range m.Funcs {
		text += fmt.Sprintf("func %d %d", n, f.Params)
		for _, box := range f.Free {
			text += map[bool]string{true: " box", false: " any"}[box]
		}
		text += "\n"
		for at, i := range f.Code {
			switch i.Op {
			case impl.InsUnbox, impl.InsSetBox, impl.InsReturn, impl.InsPop, impl.InsVoid:
				text += fmt.Sprintf("  %d %s\n", at, words[i.Op])
			case impl.InsPrim:
				text += fmt.Sprintf("  %d %s %s\n", at, words[i.Op], names[i.A])
			case impl.InsClosure:
				text += fmt.Sprintf("  %d %s %d %d\n", at, words[i.Op], i.A, i.B)
			default:
				text += fmt.Sprintf("  %d %s %d\n", at, words[i.Op], i.A)
			}
		}
	}
	return text
}

func TestListMadeModules(t *testing.T) {
	r := rand.New(rand.NewSource(4))
	for range 500 {
		m := randomModule(r)
		if got, want := string(impl.ListModule(m)), modelList(m); got != want {
			t.Fatalf("listed\n%s\nwant\n%s", got, want)
		}
	}
}
