package tests

import (
	"bytes"
	"reflect"
	"slices"
	"testing"

	"loop.example/s01541/impl"
)

// copyModule answers a module of the same value that shares nothing with it.
func copyModule(m impl.Module) impl.Module {
	c := impl.Module{Globals: m.Globals}
	for _, data := range m.Consts {
		data = slices.Clone(data)
		for i := range data {
			data[i].Text = bytes.Clone(data[i].Text)
		}
		c.Consts = append(c.Consts, data)
	}
	for _, f := range m.Funcs {
		c.Funcs = append(c.Funcs, impl.Func{Params: f.Params, Free: slices.Clone(f.Free), Code: slices.Clone(f.Code)})
	}
	return c
}

// roomy answers a module of the same value, in lists with room behind their
// ends, and all of these lists in their whole length.
func roomy(m impl.Module) (part, whole impl.Module) {
	whole = copyModule(m)
	spare := function(9, []bool{true}, insVoid)
	whole.Consts = append(whole.Consts, row(num(99)))
	whole.Funcs = append(whole.Funcs, spare)
	part = impl.Module{Globals: m.Globals, Consts: whole.Consts[:len(m.Consts)], Funcs: whole.Funcs[:len(m.Funcs)]}
	for n := range m.Consts {
		whole.Consts[n] = append(whole.Consts[n], num(99))
	}
	for n := range m.Funcs {
		whole.Funcs[n].Free = append(whole.Funcs[n].Free, true)
		whole.Funcs[n].Code = append(whole.Funcs[n].Code, insPop)
	}
	kept := copyModule(whole)
	for n := range m.Consts {
		whole.Consts[n] = whole.Consts[n][:len(m.Consts[n])]
	}
	for n := range m.Funcs {
		whole.Funcs[n].Free = whole.Funcs[n].Free[:len(m.Funcs[n].Free)]
		whole.Funcs[n].Code = whole.Funcs[n].Code[:len(m.Funcs[n].Code)]
	}
	return part, kept
}

// wholeOf answers what stands in and behind the lists of a module that roomy
// has made.
func wholeOf(part impl.Module) impl.Module {
	whole := impl.Module{Globals: part.Globals, Consts: slices.Clone(part.Consts[:len(part.Consts)+1]), Funcs: slices.Clone(part.Funcs[:len(part.Funcs)+1])}
	for n, data := range part.Consts {
		whole.Consts[n] = data[:len(data)+1]
	}
	for n, f := range part.Funcs {
		whole.Funcs[n].Free = f.Free[:len(f.Free)+1]
		whole.Funcs[n].Code = f.Code[:len(f.Code)+1]
	}
	return copyModule(whole)
}

// spoilModule overwrites all that a module holds.
func spoilModule(m impl.Module) {
	for _, data := range m.Consts {
		for i := range data {
			spoil(data[i].Text)
			data[i] = impl.Datum{Kind: 9, N: 9}
		}
	}
	for n, f := range m.Funcs {
		for i := range f.Free {
			f.Free[i] = !f.Free[i]
		}
		for i := range f.Code {
			f.Code[i] = ins(77, 77, 77)
		}
		m.Funcs[n] = impl.Func{}
	}
}

// spoilBools overwrites all that a list could reach, also behind its end.
func spoilBools(list []bool) {
	list = list[:cap(list)]
	for i := range list {
		list[i] = !list[i]
	}
}

func memoryModules() []impl.Module {
	inner := function(1, []bool{true, false}, ins(impl.InsFree, 0), insUnbox, insLocal(0), insPrim(impl.PrimCons), insReturn)
	made := []impl.Ins{insEmpty, insInt, ins(impl.InsClosure, 1, 2), insPair, insPrim(impl.PrimCar), ins(impl.InsCall, 1), insReturn}
	return []impl.Module{moduleOf(made, inner), moduleOf(append(made, insPop), inner), moduleOf(made, inner, function(0, nil, insPop))}
}

func TestModuleFunctionsLeaveTheirArgument(t *testing.T) {
	for n, m := range memoryModules() {
		part, kept := roomy(m)
		impl.ValidModule(part)
		impl.Verify(part)
		impl.ListModule(part)
		if got := wholeOf(part); !reflect.DeepEqual(got, kept) {
			t.Errorf("module %d was changed to %s", n, brief(got))
		}
	}
}

func TestVerifyAnswersNewMemory(t *testing.T) {
	for n, m := range memoryModules() {
		want, code, fn := impl.Verify(m)
		given := copyModule(m)
		got, _, _ := impl.Verify(given)
		spoilModule(given)
		if marks(got) != marks(want) {
			t.Errorf("module %d: %s behind the argument's change, was %s", n, marks(got), marks(want))
		}
		for i := range got {
			others := slices.Clone(want)
			others[i] = got[i]
			spoilBools(got[i])
			if marks(got) != marks(others) {
				t.Errorf("module %d: the lists of one answer share memory", n)
			}
			got[i] = slices.Clone(want[i])
		}
		again, code2, fn2 := impl.Verify(m)
		if marks(again) != marks(want) || code2 != code || fn2 != fn {
			t.Errorf("module %d: %s, then %s", n, marks(want), marks(again))
		}
	}
}

func TestListModuleAnswersNewMemory(t *testing.T) {
	for n, m := range memoryModules() {
		want := string(impl.ListModule(m))
		given := copyModule(m)
		got := impl.ListModule(given)
		spoilModule(given)
		if string(got) != want {
			t.Errorf("module %d: %q behind the argument's change", n, got)
		}
		spoil(got)
		if again := string(impl.ListModule(m)); again != want || !impl.ValidModule(m) {
			t.Errorf("module %d: %q, then %q", n, want, again)
		}
	}
}
