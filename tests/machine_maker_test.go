package tests

import (
	"math/rand"
	"slices"

	"loop.example/s01541/impl"
)

// runMaker makes safe code in which each argument is of the kind that is asked
// for, but for a part of them, so that runs go on for a while. It knows of each
// slot its kind: a letter of kindMakers, a for any, x for a box.
type runMaker struct {
	r     *rand.Rand
	funcs []impl.Func
	fn    int
	code  []impl.Ins
	slots []byte
	floor int // slots below stay as they are
	loose int // out of 100: how often an argument is of any kind
}

// runConsts are the constants of made modules, by their kinds.
var runConsts = map[byte][]string{
	'i': {"0", "1", "2", "3", "5", "-1", "-2", "1000", "4611686018", greatest, least},
	'b': {"#f", "#t"},
	'n': {"()"},
	's': {"s", "another-one"},
	'p': {"(1 2)", "((s) #f)", "(())"},
}

// smallInts is how many of the numbers are those of small vectors.
const smallInts = 5

func constsOf(kinds string) [][]impl.Datum {
	var consts [][]impl.Datum
	for _, kind := range []byte(kinds) {
		for _, text := range runConsts[kind] {
			consts = append(consts, programOf("'" + text)[2:])
		}
	}
	return consts
}

// constNumbers answers the first constant of a kind, and how many there are.
func constNumbers(kind byte) (first, count int) {
	for _, k := range []byte("ibnsp") {
		if k == kind {
			break
		}
		first += len(runConsts[k])
	}
	return first, len(runConsts[kind])
}

// leave adds an instruction that leaves a slot.
func (c *runMaker) leave(kind byte, op int, operands ...int) {
	c.code = append(c.code, ins(op, operands...))
	c.slots = append(c.slots, kind)
}

// take adds an instruction that takes slots.
func (c *runMaker) take(count int, op int, operands ...int) {
	c.code = append(c.code, ins(op, operands...))
	c.slots = c.slots[:len(c.slots)-count]
}

// some answers one of the letters.
func (c *runMaker) some(letters string) byte { return letters[c.r.Intn(len(letters))] }

// value adds code that leaves a value of this kind.
func (c *runMaker) value(kind byte, deep int) {
	var there []int
	for n, k := range c.slots {
		if k == kind || kind == 'a' && k != 'x' {
			there = append(there, n)
		}
	}
	switch {
	case len(there) > 0 && c.r.Intn(3) > 0:
		n := there[c.r.Intn(len(there))]
		c.leave(c.slots[n], impl.InsLocal, n)
	case deep > 0 && c.r.Intn(2) > 0:
		c.result(kind, deep-1)
	default:
		c.plain(kind)
	}
}

// plain adds code for a value that hangs on no others.
func (c *runMaker) plain(kind byte) {
	switch kind {
	case 'f':
		c.closure(c.callee())
	case 'o':
		c.leave('o', impl.InsVoid)
	case 'v':
		c.constant('i', smallInts)
		c.plain(c.some("ibns"))
		c.take(2, impl.InsPrim, impl.PrimMake)
		c.slots = append(c.slots, 'v')
	case 'a':
		c.anything()
	default:
		_, count := constNumbers(kind)
		c.constant(kind, count)
	}
}

func (c *runMaker) constant(kind byte, count int) {
	first, _ := constNumbers(kind)
	c.leave(kind, impl.InsConst, first+c.r.Intn(count))
}

// anything adds code for a value of which no kind is known, or any.
func (c *runMaker) anything() {
	free := slices.Index(c.funcs[c.fn].Free, false)
	switch k := c.r.Intn(12); {
	case k == 0:
		c.leave('a', impl.InsGlobal, c.r.Intn(2))
	case k < 3 && free >= 0:
		c.leave('a', impl.InsFree, free)
	case k == 3:
		c.box()
		c.take(1, impl.InsUnbox)
		c.slots = append(c.slots, 'a')
	default:
		c.plain(c.some("ibnspvfoiv"))
	}
}

// box adds code that leaves a box.
func (c *runMaker) box() {
	slot, free := slices.Index(c.slots, 'x'), slices.Index(c.funcs[c.fn].Free, true)
	switch k := c.r.Intn(8); {
	case k < 3 && slot >= 0:
		c.leave('x', impl.InsLocal, slot)
	case k < 5 && free >= 0:
		c.leave('x', impl.InsFree, free)
	case k == 5:
		c.leave('x', impl.InsBox, 1)
	default:
		c.value('a', 1)
		c.take(1, impl.InsBox, 0)
		c.slots = append(c.slots, 'x')
	}
}

// result adds code that computes a value of this kind.
func (c *runMaker) result(kind byte, deep int) {
	var fitting []int
	for p := range 22 {
		if _, made := modelSign(p); made[0] == kind {
			fitting = append(fitting, p)
		}
	}
	if kind == 'a' && c.r.Intn(3) == 0 {
		c.call(deep)
		return
	}
	if len(fitting) == 0 {
		c.plain(kind)
		return
	}
	c.prim(fitting[c.r.Intn(len(fitting))], deep)
}

func (c *runMaker) prim(p int, deep int) {
	args, result := modelSign(p)
	for at, kind := range []byte(args) {
		// Sizes and indexes are mostly such that the run goes on.
		if (p == impl.PrimMake || at == 1 && kind == 'i' && args[0] == 'v') && kind == 'i' && c.r.Intn(8) > 0 {
			c.constant('i', smallInts)
		} else {
			c.argument(kind, deep)
		}
	}
	c.take(len(args), impl.InsPrim, p)
	c.slots = append(c.slots, result[0])
}

func (c *runMaker) argument(kind byte, deep int) {
	if c.r.Intn(100) < c.loose {
		kind = 'a'
	}
	c.value(kind, deep)
}

// callee chooses mostly one of the functions behind this one: calls in a circle
// mostly have no end.
func (c *runMaker) callee() int {
	behind := len(c.funcs) - 1 - c.fn
	if behind == 0 || c.r.Intn(8) == 0 {
		return 1 + c.r.Intn(len(c.funcs)-1)
	}
	return c.fn + 1 + c.r.Intn(behind)
}

func (c *runMaker) closure(n int) {
	free := c.funcs[n].Free
	for _, box := range free {
		if box {
			c.box()
		} else {
			c.value('a', 0)
		}
	}
	c.take(len(free), impl.InsClosure, n, len(free))
	c.slots = append(c.slots, 'f')
}

// called adds code for a procedure and its arguments, mostly as many as it has.
func (c *runMaker) called(deep int) int {
	n := c.callee()
	count := c.funcs[n].Params
	if c.r.Intn(100) < c.loose {
		c.value('a', deep)
	} else {
		c.closure(n)
	}
	if c.r.Intn(20) == 0 {
		count = c.r.Intn(3)
	}
	for range count {
		c.value('a', deep)
	}
	return count
}

func (c *runMaker) call(deep int) {
	count := c.called(deep)
	c.take(1+count, impl.InsCall, count)
	c.slots = append(c.slots, 'a')
}

// block adds code that leaves some slots more.
func (c *runMaker) block(deep int) {
	for range c.r.Intn(5) {
		switch k := c.r.Intn(16); {
		case k < 4:
			c.value(c.some("ibnspvfoaa"), 2)
		case k < 5:
			c.box()
		case k < 6:
			c.value('a', 2)
			c.take(1, impl.InsSetGlobal, c.r.Intn(2))
		case k < 7:
			c.box()
			c.value('a', 2)
			c.take(2, impl.InsSetBox)
		case k < 9:
			c.drop()
		case k < 10:
			c.call(1)
		case k < 11:
			c.prim(c.r.Intn(22), 2)
		case k < 14 && deep > 0:
			c.branch(deep - 1)
		case deep > 0:
			c.loop(deep - 1)
		}
	}
}

// drop adds code that lets slots above the floor go.
func (c *runMaker) drop() {
	above := len(c.slots) - c.floor
	if above == 0 {
		return
	}
	if last := c.slots[len(c.slots)-1]; last != 'x' && c.r.Intn(2) > 0 {
		n := c.r.Intn(above)
		c.take(1+n, impl.InsSlide, n)
		c.slots = append(c.slots, last)
		return
	}
	c.take(1, impl.InsPop)
}

// inner adds a block that leaves nothing.
func (c *runMaker) inner(deep int) {
	floor, height := c.floor, len(c.slots)
	c.floor = height
	c.block(deep)
	for len(c.slots) > height {
		c.take(1, impl.InsPop)
	}
	c.floor = floor
}

// branch adds two ways that meet with a value each.
func (c *runMaker) branch(deep int) {
	c.value(c.some("ba"), 2)
	no := len(c.code)
	c.take(1, impl.InsJumpFalse, 0)
	c.inner(deep)
	c.value(c.some("ipva"), 1)
	first := c.slots[len(c.slots)-1]
	behind := len(c.code)
	c.take(1, impl.InsJump, 0)
	c.code[no].A = len(c.code)
	c.inner(deep)
	c.value(c.some("ipva"), 1)
	c.code[behind].A = len(c.code)
	if last := len(c.slots) - 1; c.slots[last] != first {
		c.slots[last] = 'a'
	}
}

// loop adds code that is gone through some times, with a slot that counts them.
func (c *runMaker) loop(deep int) {
	zero, _ := constNumbers('i')
	counter := len(c.slots)
	c.constant('i', smallInts)
	begin := len(c.code)
	again := begin + 5
	c.code = append(c.code, insLocal(counter), ins(impl.InsConst, zero), insPrim(impl.PrimEqual), insFalse(again), insJump(0))
	c.inner(deep)
	c.code = append(c.code, insLocal(counter), ins(impl.InsConst, zero+1), insPrim(impl.PrimSub), insSlide(1), insJump(begin))
	c.code[again-1].A = len(c.code)
}

func (c *runMaker) function() []impl.Ins {
	c.block(2)
	if c.r.Intn(3) == 0 {
		count := c.called(1)
		c.take(1+count, impl.InsTail, count)
	} else {
		c.value('a', 2)
		c.take(1, impl.InsReturn)
	}
	return c.code
}

// runModule makes a safe module; with loose 0 all that can be is proven.
func runModule(r *rand.Rand, loose int) impl.Module {
	m := impl.Module{Consts: constsOf("ibnsp"), Globals: 2, Funcs: make([]impl.Func, 1)}
	for range 1 + r.Intn(3) {
		var free []bool
		for range r.Intn(4) {
			free = append(free, r.Intn(2) == 0)
		}
		m.Funcs = append(m.Funcs, impl.Func{Params: r.Intn(3), Free: free})
	}
	for n, f := range m.Funcs {
		c := runMaker{r: r, funcs: m.Funcs, fn: n, loose: loose}
		for range f.Params {
			c.slots = append(c.slots, 'a')
		}
		c.floor = len(c.slots)
		m.Funcs[n].Code = c.function()
	}
	return m
}
