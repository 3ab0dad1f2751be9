package tests

import (
	"slices"
	"strings"
	"testing"

	"loop.example/s01541/impl"
)

// kindMakers answers, for each kind of a value by its letter, code that leaves
// it: int, bool, nil, symbol, pair, vector, procedure, void (o), and any (a).
func kindMakers() map[byte][]impl.Ins {
	return map[byte][]impl.Ins{
		'i': {insInt},
		'b': {insBool},
		'n': {ins(impl.InsConst, constNil)},
		's': {ins(impl.InsConst, constSymbol)},
		'p': {insPair},
		'v': {insInt, insInt, insPrim(impl.PrimMake)},
		'f': {ins(impl.InsClosure, 1, 0)},
		'o': {insVoid},
		'a': {ins(impl.InsGlobal, 0)},
	}
}

// signatures are the arguments and the result of each primitive in the letters
// of kindMakers.
var signatures = [22]string{"ii i", "ii i", "ii i", "ii i", "ii i", "ii b", "ii b", "aa p", "p a", "p a", "a b", "a b",
	"a b", "a b", "a b", "a b", "aa b", "a b", "ia v", "vi a", "via o", "v i"}

// kindTests is, for each letter, code that is proven for this kind alone; it
// takes the value.
func kindTests() map[byte][]impl.Ins {
	return map[byte][]impl.Ins{
		'i': {insInt, insPrim(impl.PrimAdd)},
		'p': {insPrim(impl.PrimCar)},
		'v': {insPrim(impl.PrimLength)},
		'f': {ins(impl.InsCall, 0)},
	}
}

// provenLast tells whether the last instruction but one of a main function is
// proven.
func provenLast(t *testing.T, code []impl.Ins) bool {
	t.Helper()
	m := moduleOf(append(code, insReturn), ending(0))
	proven, got, fn := impl.Verify(m)
	if got != impl.CodeOK || fn != 0 {
		t.Errorf("code %d for %s", got, impl.ListModule(m))
		return false
	}
	return proven[0][len(code)-1]
}

func TestProvenArguments(t *testing.T) {
	makers := kindMakers()
	for p, sign := range signatures {
		args, _, _ := strings.Cut(sign, " ")
		good := []byte(strings.ReplaceAll(args, "a", "o"))
		for place := range good {
			for kind := range makers {
				given := slices.Clone(good)
				given[place] = kind
				var code []impl.Ins
				for _, k := range given {
					code = append(code, makers[k]...)
				}
				want := args[place] == 'a' || args[place] == kind
				if got := provenLast(t, append(code, insPrim(p))); got != want {
					t.Errorf("primitive %d with %s: proven %v, want %v", p, given, got, want)
				}
			}
		}
	}
}

// provenWith writes the letters of those tests that are proven for what the
// code leaves.
func provenWith(t *testing.T, code []impl.Ins) string {
	t.Helper()
	text := ""
	for kind, test := range kindTests() {
		if provenLast(t, slices.Concat(code, test)) {
			text += string(kind)
		}
	}
	return text
}

func TestProvenResults(t *testing.T) {
	makers := kindMakers()
	for p, sign := range signatures {
		args, result, _ := strings.Cut(sign, " ")
		var code []impl.Ins
		for _, k := range []byte(args) {
			code = append(code, makers[k]...)
		}
		want := result
		if _, tested := kindTests()[result[0]]; !tested {
			want = ""
		}
		if got := provenWith(t, append(code, insPrim(p))); got != want {
			t.Errorf("the result of primitive %d is taken as %q, want %q", p, got, want)
		}
	}
}

func TestProvenKindsOfInstructions(t *testing.T) {
	for kind, code := range kindMakers() {
		want := string(kind)
		if _, tested := kindTests()[kind]; !tested {
			want = ""
		}
		if got := provenWith(t, code); got != want {
			t.Errorf("what %c leaves is taken as %q", kind, got)
		}
		if got := provenWith(t, slices.Concat(code, []impl.Ins{insLocal(0)})); got != want {
			t.Errorf("what local leaves of %c is taken as %q", kind, got)
		}
		if got := provenWith(t, slices.Concat([]impl.Ins{insEmpty}, code, []impl.Ins{insSlide(1)})); got != want {
			t.Errorf("what slide leaves of %c is taken as %q", kind, got)
		}
		if got := provenWith(t, slices.Concat(code, []impl.Ins{insWrap, insUnbox})); got != "" {
			t.Errorf("what unbox leaves of %c is taken as %q", kind, got)
		}
		if got := provenWith(t, slices.Concat(code, []impl.Ins{ins(impl.InsCall, 0)})); got != "" {
			t.Errorf("what a call of %c leaves is taken as %q", kind, got)
		}
	}
}

func TestProvenCalls(t *testing.T) {
	proc := ins(impl.InsClosure, 1, 0)
	m := func(code ...impl.Ins) impl.Module { return moduleOf(code, ending(0)) }
	checkProven(t, "a call of a procedure", m(proc, ins(impl.InsCall, 0), insReturn), ".x. ..")
	checkProven(t, "a tail call of a procedure", m(proc, ins(impl.InsTail, 0)), ".x ..")
	checkProven(t, "a wrong number of arguments", m(proc, insInt, ins(impl.InsCall, 1), insReturn), "..x. ..")
	checkProven(t, "a call of a number", m(insInt, ins(impl.InsCall, 0), insReturn), "... ..")
	checkProven(t, "a tail call of a number", m(insInt, ins(impl.InsTail, 0)), ".. ..")
	checkProven(t, "a procedure as an argument", m(insInt, proc, ins(impl.InsCall, 1), insReturn), ".... ..")
	checkProven(t, "a procedure as an argument of a tail call", m(insInt, proc, ins(impl.InsTail, 1)), "... ..")
	checkProven(t, "a procedure below what is called", m(proc, insInt, ins(impl.InsCall, 0), insReturn), ".... ..")
	checkProven(t, "what may be a procedure", m(ins(impl.InsGlobal, 0), ins(impl.InsCall, 0), insReturn), "... ..")
	checkProven(t, "what may be one, last", m(ins(impl.InsGlobal, 0), ins(impl.InsTail, 0)), ".. ..")
	most := append(append([]impl.Ins{proc}, times(impl.MaxParams, insInt)...), ins(impl.InsTail, impl.MaxParams))
	checkProven(t, "MaxParams arguments", m(most...), strings.Repeat(".", 21)+"x ..")
	both := func(other impl.Ins) impl.Module {
		return m(insVoid, insFalse(4), proc, insJump(5), other, ins(impl.InsCall, 0), insReturn)
	}
	checkProven(t, "a procedure on both ways", both(proc), ".....x. ..")
	checkProven(t, "a procedure on one way alone", both(insInt), "....... ..")
	free := function(1, []bool{false, true}, ins(impl.InsFree, 0), ins(impl.InsCall, 0), insPop, insLocal(0), ins(impl.InsTail, 0))
	made := moduleOf([]impl.Ins{proc, insPop, insVoid, insReturn}, ending(0), free)
	checkProven(t, "captured values and parameters", made, ".... .. .....")
}

func TestProvenListsAreByTheirCount(t *testing.T) {
	for count, want := range []string{"...", ".x.", ".x."} {
		m := mainOf(ins(impl.InsConst, 0), insPrim(impl.PrimCdr), insReturn)
		m.Consts = [][]impl.Datum{append(row(list(count)), slices.Repeat(row(list(0)), count)...)}
		checkProven(t, "a list of some elements", m, want)
	}
	m := mainOf(ins(impl.InsConst, 0), insPrim(impl.PrimCar), insReturn)
	m.Consts = [][]impl.Datum{nested(impl.MaxDeep)}
	checkProven(t, "lists within each other", m, ".x.")
}

func TestProvenOthersAreNot(t *testing.T) {
	code := []impl.Ins{insInt, ins(impl.InsSetGlobal, 0), ins(impl.InsGlobal, 0), insWrap, insLocal(0), insVoid, insSetBox,
		insUnbox, insFalse(9), insVoid, insJump(11), insEmpty, insPop, insInt, insSlide(1), insReturn}
	checkProven(t, "no primitive and no call", mainOf(code...), strings.Repeat(".", len(code)))
	checkProven(t, "a way back to a proven one", mainOf(insInt, insInt, insPrim(impl.PrimAdd), insInt, insJump(2)), "..x..")
	checkProven(t, "a way back to one that is not", mainOf(insInt, insInt, insPrim(impl.PrimLess), insInt, insJump(2)), ".....")
}
