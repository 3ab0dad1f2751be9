package tests

import (
	"slices"
	"strings"
	"testing"

	"loop.example/s01541/impl"
)

// marks writes what is proven, a function a word: x for yes, a point for no.
func marks(proven [][]bool) string {
	text := ""
	for n, row := range proven {
		if n > 0 {
			text += " "
		}
		for _, p := range row {
			if p {
				text += "x"
			} else {
				text += "."
			}
		}
	}
	return text
}

func checkSafe(t *testing.T, what string, m impl.Module) {
	t.Helper()
	proven, code, fn := impl.Verify(m)
	if code != impl.CodeOK || fn != 0 {
		t.Errorf("%s: code %d, function %d", what, code, fn)
	}
	if len(proven) != len(m.Funcs) {
		t.Errorf("%s: %d functions, want %d", what, len(proven), len(m.Funcs))
		return
	}
	for n, f := range m.Funcs {
		if len(proven[n]) != len(f.Code) {
			t.Errorf("%s: %d instructions of function %d, want %d", what, len(proven[n]), n, len(f.Code))
		}
	}
}

func checkUnsafe(t *testing.T, what string, m impl.Module, want int) {
	t.Helper()
	proven, code, fn := impl.Verify(m)
	if code != impl.CodeUnsafe || fn != want || len(proven) != 0 {
		t.Errorf("%s: code %d, function %d, want %d; %s", what, code, fn, want, brief(proven))
	}
}

func checkMainSafe(t *testing.T, what string, code ...impl.Ins) {
	t.Helper()
	checkSafe(t, what, mainOf(code...))
}

func checkMainUnsafe(t *testing.T, what string, code ...impl.Ins) {
	t.Helper()
	checkUnsafe(t, what, mainOf(code...), 0)
}

func checkProven(t *testing.T, what string, m impl.Module, want string) {
	t.Helper()
	checkSafe(t, what, m)
	proven, _, _ := impl.Verify(m)
	if got := marks(proven); got != want {
		t.Errorf("%s: proven %s, want %s", what, got, want)
	}
}

func TestVerifyCodeToWhichNoWayLeads(t *testing.T) {
	checkMainSafe(t, "taking what is not there", insVoid, insReturn, insPop, insUnbox, insReturn)
	checkMainSafe(t, "a way behind the last instruction", insVoid, insReturn, insPop)
	checkMainSafe(t, "behind a tail call", insVoid, ins(impl.InsTail, 0), insSetBox, insVoid)
	checkMainSafe(t, "behind a jump", insJump(2), insReturn, insVoid, insReturn)
	checkMainSafe(t, "a jump from there to other slots", insVoid, insReturn, insPop, insJump(0))
	checkMainSafe(t, "a jump from there with a box", insVoid, insReturn, insEmpty, insJump(1))
	checkMainSafe(t, "a jump from there to itself", insVoid, insReturn, insVoid, insJump(2))
	checkMainSafe(t, "too many slots", slices.Concat([]impl.Ins{insVoid, insReturn}, times(300, insVoid))...)
	checkMainSafe(t, "a slot that is not there", insVoid, insReturn, insLocal(5), insReturn)
	// A way leads to it after all, from behind.
	checkMainUnsafe(t, "a way back to bad code", insJump(3), insUnbox, insReturn, insVoid, insJump(1))
	checkProven(t, "code there is not proven", mainOf(insVoid, insReturn, insInt, insInt, insPrim(impl.PrimAdd), insReturn), "......")
	m := moduleOf([]impl.Ins{insVoid, insReturn, ins(impl.InsClosure, 1, 0), ins(impl.InsCall, 0), ins(impl.InsClosure, 1, 0), ins(impl.InsTail, 0)}, ending(0))
	checkProven(t, "calls there are not proven", m, "...... ..")
	checkProven(t, "what jumps from there adds nothing", mainOf(insInt, insInt, insPrim(impl.PrimAdd), insReturn, insVoid, insVoid, insJump(2)), "..x....")
}

func TestVerifyEnds(t *testing.T) {
	checkMainUnsafe(t, "no end", insVoid)
	checkMainUnsafe(t, "a jump of a condition behind the last", insVoid, insFalse(0))
	checkMainSafe(t, "a loop without an end", insJump(0))
	checkMainSafe(t, "a loop back to the first instruction", insVoid, insPop, insJump(0))
	checkMainSafe(t, "a jump to the last instruction", insVoid, insJump(2), insReturn)
	checkMainSafe(t, "a jump over what is bad", insVoid, insJump(4), insPop, insPop, insReturn)
	checkMainSafe(t, "a condition that jumps to the next instruction", insVoid, insVoid, insFalse(3), insReturn)
	checkMainUnsafe(t, "a condition that jumps to itself", insVoid, insVoid, insFalse(2), insReturn)
	checkMainUnsafe(t, "a call at the end", insVoid, ins(impl.InsCall, 0))
	checkMainSafe(t, "a tail call at the end", insVoid, ins(impl.InsTail, 0))
	checkMainSafe(t, "slots left behind a return", insVoid, insEmpty, insInt, insReturn)
	checkMainSafe(t, "slots left behind a tail call", insEmpty, insVoid, insInt, ins(impl.InsTail, 1))
	checkUnsafe(t, "another function without an end", moduleOf([]impl.Ins{insVoid, insReturn}, function(1, nil, insPop)), 1)
	checkSafe(t, "another function without an end, which jumps", moduleOf([]impl.Ins{insVoid, insReturn}, function(1, nil, insPop, insVoid, insJump(0))))
}

func TestVerifyWaysThatMeet(t *testing.T) {
	// 0 void, 1 jumpfalse 4, 2 .., 3 jump 5, 4 .., 5 ..
	meet := func(one, other impl.Ins, behind ...impl.Ins) []impl.Ins {
		return append([]impl.Ins{insVoid, insFalse(4), one, insJump(5), other}, behind...)
	}
	checkMainSafe(t, "as many slots", meet(insInt, insBool, insReturn)...)
	checkMainUnsafe(t, "a slot more where it jumps", meet(insInt, insJump(5), insVoid, insReturn)...)
	checkMainUnsafe(t, "a slot more where it goes on", meet(insJump(3), insInt, insVoid, insReturn)...)
	checkMainUnsafe(t, "a slot more on a way back", insVoid, insVoid, insJump(1))
	checkMainUnsafe(t, "a slot less on a way back", insVoid, insVoid, insPop, insPop, insJump(1))
	checkUnsafe(t, "a slot more than the parameters", moduleOf([]impl.Ins{insVoid, insReturn}, function(2, nil, insVoid, insJump(0))), 1)
	checkUnsafe(t, "a slot less than the parameters", moduleOf([]impl.Ins{insVoid, insReturn}, function(2, nil, insPop, insJump(0))), 1)

	boxed := func(behind ...impl.Ins) []impl.Ins { return meet(insInt, insEmpty, behind...) }
	value := func(behind ...impl.Ins) []impl.Ins { return meet(insEmpty, insInt, behind...) }
	for _, mixed := range []func(...impl.Ins) []impl.Ins{boxed, value} {
		checkMainSafe(t, "pop", mixed(insPop, insVoid, insReturn)...)
		checkMainSafe(t, "slide", mixed(insVoid, insSlide(1), insReturn)...)
		checkMainSafe(t, "local", mixed(insLocal(0), insPop, insPop, insVoid, insReturn)...)
		checkMainSafe(t, "staying where it is", mixed(insVoid, insReturn)...)
		checkMainSafe(t, "a box below it", mixed(insEmpty, insUnbox, insReturn)...)
		checkMainUnsafe(t, "return", mixed(insReturn)...)
		checkMainUnsafe(t, "unbox", mixed(insUnbox, insReturn)...)
		checkMainUnsafe(t, "setbox as the box", mixed(insVoid, insSetBox, insVoid, insReturn)...)
		checkMainUnsafe(t, "setbox as the value", mixed(insEmpty, insLocal(0), insSetBox, insVoid, insReturn)...)
		checkMainUnsafe(t, "box", mixed(insWrap, insUnbox, insReturn)...)
		checkMainUnsafe(t, "setglobal", mixed(ins(impl.InsSetGlobal, 0), insVoid, insReturn)...)
		checkMainUnsafe(t, "the procedure of a call", mixed(ins(impl.InsCall, 0), insReturn)...)
		checkMainUnsafe(t, "the procedure of a tail call", mixed(ins(impl.InsTail, 0))...)
		checkMainUnsafe(t, "an argument of a call", mixed(insVoid, insLocal(0), ins(impl.InsCall, 1), insReturn)...)
		checkMainUnsafe(t, "an argument of a tail call", mixed(insVoid, insLocal(0), ins(impl.InsTail, 1))...)
		checkMainUnsafe(t, "the condition of a jump", mixed(insFalse(6), insVoid, insReturn)...)
		checkMainUnsafe(t, "an argument of a primitive", mixed(insPrim(impl.PrimNot), insReturn)...)
		checkMainUnsafe(t, "the value of a slide", mixed(insSlide(0), insPop, insVoid, insReturn)...)
		checkMainUnsafe(t, "what was taken from it by local", mixed(insLocal(0), insUnbox, insReturn)...)
		checkUnsafe(t, "a captured box", moduleOf(mixed(ins(impl.InsClosure, 1, 1), insReturn), ending(0, true)), 0)
		checkUnsafe(t, "a captured value", moduleOf(mixed(ins(impl.InsClosure, 1, 1), insReturn), ending(0, false)), 0)
	}
}

func TestVerifyBoxesOnBothWays(t *testing.T) {
	meet := func(behind ...impl.Ins) []impl.Ins {
		return append([]impl.Ins{insVoid, insFalse(4), insEmpty, insJump(6), insInt, insWrap}, behind...)
	}
	checkMainSafe(t, "unbox", meet(insUnbox, insReturn)...)
	checkMainSafe(t, "setbox", meet(insVoid, insSetBox, insVoid, insReturn)...)
	checkMainUnsafe(t, "return", meet(insReturn)...)
	checkSafe(t, "a captured box", moduleOf(meet(ins(impl.InsClosure, 1, 1), insReturn), ending(0, true)))
	checkUnsafe(t, "a captured value", moduleOf(meet(ins(impl.InsClosure, 1, 1), insReturn), ending(0, false)), 0)
}

func TestVerifySetsThatGrow(t *testing.T) {
	// The slot is a number when the loop is first come to, and a bool later.
	grow := mainOf(insInt, insLocal(0), insInt, insPrim(impl.PrimLess), insSlide(1), insJump(1))
	checkProven(t, "a number, then a bool", grow, "......")
	grow.Funcs[0].Code[3] = insPrim(impl.PrimAdd)
	checkProven(t, "a number each time", grow, "...x..")
	checkMainUnsafe(t, "a box from the second time on", insInt, insLocal(0), insPrim(impl.PrimNot), insPop, insPop, insEmpty, insJump(1))
	checkMainUnsafe(t, "a value from the second time on", insEmpty, insLocal(0), insUnbox, insSlide(1), insJump(1))
	checkMainSafe(t, "a box each time", insEmpty, insLocal(0), insUnbox, insPop, insPop, insEmpty, insJump(1))
	// Each time around, a kind moves one slot further down.
	chain := []impl.Ins{insInt, insInt, insInt, insInt}
	chain = append(chain, insLocal(0), insInt, insPrim(impl.PrimAdd), insPop) // 4 to 7
	chain = append(chain, insLocal(1), insInt, insPrim(impl.PrimAdd), insPop) // 8 to 11
	chain = append(chain, insLocal(2), insLocal(3), insPrim(impl.PrimAdd), insPop)
	first := mainOf(append(slices.Clone(chain), insJump(4))...)
	checkProven(t, "no slot changes", first, "......x...x...x..")
	last := mainOf(append(slices.Clone(chain), insPop, insBool, insJump(4))...)
	checkProven(t, "the last slot changes", last, "......x...x........")
	// The bool comes to the last slot, from there to the one ahead of it, from
	// there to the second, and from there to the first.
	last.Funcs[0].Code = slices.Concat(chain, []impl.Ins{ins(impl.InsGlobal, 0), insFalse(21), insSlide(1), insBool, insJump(4)},
		[]impl.Ins{ins(impl.InsGlobal, 0), insFalse(28), insPop, insSlide(1), insInt, insInt, insJump(4)},
		[]impl.Ins{insPop, insPop, insSlide(1), insInt, insInt, insInt, insJump(4)})
	checkProven(t, "the first slot changes in the end", last, strings.Repeat(".", 35))
	last.Funcs[0].Code[30] = insPop
	checkProven(t, "the first slot is not come to", last, "......x"+strings.Repeat(".", 28))
	last.Funcs[0].Code[31] = insPop
	checkUnsafe(t, "a slot less on one of the ways", last, 0)
	last.Funcs[0].Code = append(last.Funcs[0].Code[:28], insVoid, insReturn)
	checkProven(t, "the second slot changes in the end", last, "......x"+strings.Repeat(".", 23))
	// The boxes come in by a way that is found late.
	late := []impl.Ins{insInt, insVoid, insFalse(9), insLocal(0), insPrim(impl.PrimNot), insPop, insJump(1)}
	late = append(late, insVoid, insReturn, insPop, insEmpty, insJump(1))
	checkMainUnsafe(t, "a box by a way that is found late", late...)
	late[10] = insBool
	checkMainSafe(t, "a value by a way that is found late", late...)
}

func TestVerifyStack(t *testing.T) {
	full := times(impl.MaxStack, insVoid)
	with := func(behind ...impl.Ins) []impl.Ins { return slices.Concat(full, behind) }
	checkMainSafe(t, "MaxStack slots", with(insReturn)...)
	checkMainUnsafe(t, "one slot more", with(insVoid, insReturn)...)
	checkMainSafe(t, "as many again behind a pop", with(insPop, insVoid, insReturn)...)
	checkMainSafe(t, "an instruction that takes and leaves", with(insWrap, insUnbox, insReturn)...)
	checkMainSafe(t, "the last slot", with(insPop, insLocal(impl.MaxStack-2), insReturn)...)
	checkMainSafe(t, "all slots slid", with(insSlide(impl.MaxStack-1), insReturn)...)
	checkMainUnsafe(t, "a slot more slid", with(insSlide(impl.MaxStack), insReturn)...)
	checkMainSafe(t, "a jump with all slots", with(insJump(impl.MaxStack+2), insPop, insReturn)...)
	for _, more := range []impl.Ins{insInt, insLocal(0), ins(impl.InsGlobal, 0), insEmpty, insVoid} {
		checkMainUnsafe(t, "one slot more", with(more, insPop, insReturn)...)
		checkMainUnsafe(t, "one slot more that is never taken", with(more, insJump(impl.MaxStack+1))...)
	}
	more := moduleOf(with(ins(impl.InsClosure, 1, 0), insPop, insReturn), ending(0))
	checkUnsafe(t, "a closure of nothing as one slot more", more, 0)
	free := function(impl.MaxParams, []bool{false}, times(impl.MaxStack-impl.MaxParams, ins(impl.InsFree, 0))...)
	free.Code = append(free.Code, insReturn)
	checkSafe(t, "MaxStack slots with parameters", moduleOf([]impl.Ins{insVoid, insReturn}, free))
	free.Code = slices.Insert(free.Code, 0, ins(impl.InsFree, 0))
	checkUnsafe(t, "one captured value more", moduleOf([]impl.Ins{insVoid, insReturn}, free), 1)
}

func TestVerifySlots(t *testing.T) {
	checkMainUnsafe(t, "the first slot of none", insLocal(0), insReturn)
	checkMainSafe(t, "the first slot", insInt, insLocal(0), insReturn)
	checkMainUnsafe(t, "one slot beyond", insInt, insLocal(1), insReturn)
	checkMainUnsafe(t, "the last slot that there can be", insInt, insLocal(impl.MaxStack-1), insReturn)
	checkMainUnsafe(t, "a slot that was popped", insInt, insInt, insPop, insLocal(1), insReturn)
	params := func(n int, code ...impl.Ins) impl.Module {
		return moduleOf([]impl.Ins{insVoid, insReturn}, function(n, nil, code...))
	}
	checkSafe(t, "the last parameter", params(3, insLocal(2), insReturn))
	checkUnsafe(t, "one beyond the parameters", params(3, insLocal(3), insReturn), 1)
	checkSafe(t, "MaxParams parameters", params(impl.MaxParams, insLocal(impl.MaxParams-1), insReturn))
	checkSafe(t, "a parameter is a value", params(1, insReturn))
	checkUnsafe(t, "a parameter is no box", params(1, insUnbox, insReturn), 1)
	checkProven(t, "a parameter may be anything", params(2, insPrim(impl.PrimAdd), insReturn), ".. ..")
	// The slots are counted from the first one, not from the last.
	checkMainSafe(t, "a box below a value", insEmpty, insInt, insLocal(0), insUnbox, insReturn)
	checkMainUnsafe(t, "a value above a box", insEmpty, insInt, insLocal(1), insUnbox, insReturn)
}

func TestVerifyTakesMoreThanThereIs(t *testing.T) {
	takes := map[int][]impl.Ins{
		1: {ins(impl.InsSetGlobal, 0), insWrap, ins(impl.InsCall, 0), ins(impl.InsTail, 0), insReturn, insFalse(0),
			insPrim(impl.PrimCar), insPrim(impl.PrimNot), insPrim(impl.PrimLength), insSlide(0), insPop},
		2: {ins(impl.InsCall, 1), ins(impl.InsTail, 1), insPrim(impl.PrimAdd), insPrim(impl.PrimCons), insPrim(impl.PrimEq),
			insPrim(impl.PrimMake), insPrim(impl.PrimRef), insSlide(1), ins(impl.InsClosure, 1, 2)},
		3:  {ins(impl.InsCall, 2), insPrim(impl.PrimSet), insSlide(2)},
		21: {ins(impl.InsCall, impl.MaxParams), ins(impl.InsTail, impl.MaxParams), insSlide(20)},
	}
	for count, list := range takes {
		for _, taking := range list {
			slots := func(n int) impl.Module {
				// A jump ends the way, with the slots that are left.
				return moduleOf(append(times(n, insVoid), taking, insJump(n+1)), ending(0, false, false))
			}
			m := slots(count)
			if taking == insFalse(0) {
				m.Funcs[0].Code[count].A = count + 1
			}
			checkSafe(t, "enough slots for "+string(impl.ListModule(m)), m)
			m = slots(count - 1)
			if taking == insFalse(0) {
				m.Funcs[0].Code[count-1].A = count
			}
			checkUnsafe(t, "a slot too few for "+string(impl.ListModule(m)), m, 0)
		}
	}
	checkMainUnsafe(t, "unbox of nothing", insUnbox, insReturn)
	checkMainUnsafe(t, "setbox of a box alone", insEmpty, insSetBox, insVoid, insReturn)
	checkMainUnsafe(t, "setbox of nothing", insSetBox, insVoid, insReturn)
	checkMainSafe(t, "a new box of nothing", insEmpty, insUnbox, insReturn)
}

func TestVerifyBoxes(t *testing.T) {
	checkMainSafe(t, "setbox", insEmpty, insInt, insSetBox, insVoid, insReturn)
	checkMainUnsafe(t, "setbox exchanged", insInt, insEmpty, insSetBox, insVoid, insReturn)
	checkMainUnsafe(t, "setbox of two boxes", insEmpty, insEmpty, insSetBox, insVoid, insReturn)
	checkMainUnsafe(t, "setbox of two values", insInt, insInt, insSetBox, insVoid, insReturn)
	checkMainSafe(t, "unbox of a box", insInt, insWrap, insUnbox, insReturn)
	checkMainUnsafe(t, "unbox of a value", insInt, insUnbox, insReturn)
	checkMainUnsafe(t, "unbox of what was unboxed", insInt, insWrap, insUnbox, insUnbox, insReturn)
	checkMainUnsafe(t, "a box of a box", insEmpty, insWrap, insUnbox, insReturn)
	checkMainUnsafe(t, "a box that is returned", insEmpty, insReturn)
	checkMainUnsafe(t, "a box that is called", insEmpty, ins(impl.InsCall, 0), insReturn)
	checkMainUnsafe(t, "a box that is called last", insEmpty, ins(impl.InsTail, 0))
	for n := range 3 {
		args := []impl.Ins{insVoid, insVoid, insVoid}
		args[n] = insEmpty
		checkMainUnsafe(t, "a box in a call", append(args, ins(impl.InsCall, 2), insReturn)...)
		checkMainUnsafe(t, "a box in a tail call", append(args, ins(impl.InsTail, 2))...)
		checkMainUnsafe(t, "a box in vector-set!", append(args, insPrim(impl.PrimSet), insReturn)...)
	}
	checkMainUnsafe(t, "a box as a condition", insEmpty, insFalse(2), insVoid, insReturn)
	checkMainUnsafe(t, "a box as a global", insEmpty, ins(impl.InsSetGlobal, 0), insVoid, insReturn)
	checkMainSafe(t, "a global is a value", ins(impl.InsGlobal, 0), insReturn)
	checkMainUnsafe(t, "a global is no box", ins(impl.InsGlobal, 0), insUnbox, insReturn)
	checkMainUnsafe(t, "a result is no box", insVoid, ins(impl.InsCall, 0), insUnbox, insReturn)
	checkMainSafe(t, "a box that is popped", insEmpty, insPop, insVoid, insReturn)
	checkMainSafe(t, "boxes that are slid over", insEmpty, insInt, insEmpty, insInt, insSlide(3), insReturn)
	checkMainUnsafe(t, "a box that is slid", insInt, insEmpty, insSlide(1), insPop, insVoid, insReturn)
	checkMainSafe(t, "nothing is slid over", insInt, insSlide(0), insReturn)
	checkProven(t, "a slide keeps the set", mainOf(insVoid, insInt, insSlide(1), insInt, insPrim(impl.PrimAdd), insReturn), "....x.")
}

func TestVerifyBoxesForEachPrimitive(t *testing.T) {
	counts := [22]int{2, 2, 2, 2, 2, 2, 2, 2, 1, 1, 1, 1, 1, 1, 1, 1, 2, 1, 2, 2, 3, 1}
	for p, count := range counts {
		args := times(count, ins(impl.InsGlobal, 0))
		checkMainSafe(t, "as many arguments", append(slices.Clone(args), insPrim(p), insReturn)...)
		checkMainUnsafe(t, "an argument too few", append(slices.Clone(args[1:]), insPrim(p), insReturn)...)
		checkMainUnsafe(t, "the result is no box", append(slices.Clone(args), insPrim(p), insUnbox, insReturn)...)
		for n := range count {
			boxed := slices.Clone(args)
			boxed[n] = insEmpty
			checkMainUnsafe(t, "a box as an argument", append(boxed, insPrim(p), insReturn)...)
		}
		// One slot is left of what was there before.
		less := append(append([]impl.Ins{insVoid}, args...), insPrim(p), insPop, insJump(0))
		checkMainUnsafe(t, "a slot stays below the arguments", less...)
		less[count+3] = insJump(1)
		checkMainSafe(t, "no other slot is taken", less...)
	}
}

func TestVerifyClosures(t *testing.T) {
	closure := func(free []bool, code ...impl.Ins) impl.Module {
		return moduleOf(append(code, ins(impl.InsClosure, 2, len(free)), insReturn), ending(3), ending(1, free...))
	}
	checkSafe(t, "nothing captured", closure(nil))
	checkSafe(t, "a value", closure([]bool{false}, insInt))
	checkSafe(t, "a box", closure([]bool{true}, insEmpty))
	checkUnsafe(t, "a box for a value", closure([]bool{false}, insEmpty), 0)
	checkUnsafe(t, "a value for a box", closure([]bool{true}, insInt), 0)
	checkSafe(t, "a box, then a value", closure([]bool{true, false}, insEmpty, insInt))
	checkSafe(t, "a value, then a box", closure([]bool{false, true}, insInt, insEmpty))
	checkUnsafe(t, "exchanged", closure([]bool{true, false}, insInt, insEmpty), 0)
	checkUnsafe(t, "exchanged the other way", closure([]bool{false, true}, insEmpty, insInt), 0)
	checkUnsafe(t, "exchanged in the middle", closure([]bool{true, false, true, false}, insEmpty, insEmpty, insInt, insInt), 0)
	checkSafe(t, "slots below what is captured", closure([]bool{false}, insEmpty, insInt))
	checkUnsafe(t, "too few", closure([]bool{false, false}, insInt), 0)
	free := function(0, []bool{true, false}, ins(impl.InsFree, 0), insUnbox, insPop, ins(impl.InsFree, 1), insReturn)
	made := []impl.Ins{insEmpty, insInt, ins(impl.InsClosure, 1, 2), insReturn}
	checkSafe(t, "captured values in their function", moduleOf(made, free))
	free.Code = []impl.Ins{ins(impl.InsFree, 1), insUnbox, insReturn}
	checkUnsafe(t, "a captured value is no box", moduleOf(made, free), 1)
	free.Code = []impl.Ins{ins(impl.InsFree, 0), insReturn}
	checkUnsafe(t, "a captured box is no value", moduleOf(made, free), 1)
	checkUnsafe(t, "a closure is no box", closure(nil, ins(impl.InsClosure, 1, 0), insUnbox), 0)
}

func TestVerifyFirstFunctionThatIsNotSafe(t *testing.T) {
	good, bad := ending(0), function(0, nil, insPop)
	of := func(funcs ...impl.Func) impl.Module { return impl.Module{Funcs: funcs} }
	checkUnsafe(t, "the first", of(bad, good, bad), 0)
	checkUnsafe(t, "the second", of(good, bad, bad), 1)
	checkUnsafe(t, "the third", of(good, good, bad, good), 2)
	checkSafe(t, "none", of(good, good, good))
	many := slices.Repeat([]impl.Func{good}, impl.MaxFuncs)
	many[impl.MaxFuncs-1] = bad
	checkUnsafe(t, "the last", of(many...), impl.MaxFuncs-1)
	many[impl.MaxFuncs-2] = bad
	checkUnsafe(t, "the last but one", of(many...), impl.MaxFuncs-2)
	checkUnsafe(t, "one that is never made", moduleOf([]impl.Ins{insVoid, insReturn}, bad), 1)
}
