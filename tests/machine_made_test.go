package tests

import (
	"math/rand"
	"slices"
	"sort"
	"strings"
	"testing"

	"loop.example/s01541/impl"
)

// runCodes are those with which a run can end.
var runCodes = []int{impl.CodeOK, impl.CodeType, impl.CodeArity, impl.CodeIndex, impl.CodeZero, impl.CodeOverflow,
	impl.CodeUnset, impl.CodeMemory, impl.CodeFuel, impl.CodeLimit}

func sameOutcome(a, b impl.Outcome) bool {
	return sameShown(a, b) && a.Collects == b.Collects
}

// sameShown compares what hangs neither on the heap nor on collections.
func sameShown(a, b impl.Outcome) bool {
	return a.Code == b.Code && string(a.Text) == string(b.Text) && a.Steps == b.Steps && a.Frames == b.Frames
}

// runTally counts how runs have ended.
type runTally struct {
	codes [impl.CodeFuel + 1]int
	full  int // runs that went on behind a collection of their own
}

func (c *runTally) count(o impl.Outcome, forced []int) {
	c.codes[o.Code]++
	if o.Collects > len(forced) && o.Code != impl.CodeMemory {
		c.full++
	}
}

// checkCodes asks for so many runs of each of the codes.
func (c *runTally) checkCodes(t *testing.T, least int, codes ...int) {
	t.Helper()
	for _, code := range codes {
		if c.codes[code] < least {
			t.Errorf("only %d runs end with code %d: %+v", c.codes[code], code, *c)
		}
	}
}

// checkRunModel holds a run of a safe module against the model.
func checkRunModel(t *testing.T, m impl.Module, heap, fuel int, forced []int, tally *runTally) impl.Outcome {
	t.Helper()
	got, want := impl.Run(m, heap, fuel, forced), modelOutcome(m, heap, fuel, forced)
	if !sameOutcome(got, want) {
		t.Fatalf("heap %d, fuel %d, forced %s: %s, want %s for\n%s", heap, fuel, brief(forced), shown(got), shown(want), impl.ListModule(m))
	}
	tally.count(got, forced)
	return got
}

// madeForced answers a list of forced collections, with some that never come.
func madeForced(r *rand.Rand, steps int) []int {
	var forced []int
	switch r.Intn(4) {
	case 0:
		for range r.Intn(10) {
			forced = append(forced, r.Intn(steps+5)-3)
		}
	case 1:
		forced = allSteps(steps)
	case 2:
		every := 2 + r.Intn(5)
		for n := r.Intn(every); n < steps; n += every {
			forced = append(forced, n)
		}
	}
	return forced
}

// leastHeap finds the least heap with which a run does not end with CodeMemory,
// or one that is too great.
func leastHeap(m impl.Module, fuel int) int {
	return sort.Search(impl.MaxHeap+1, func(heap int) bool {
		return impl.Run(m, heap, fuel, nil).Code != impl.CodeMemory
	})
}

func TestRunAllShortCodes(t *testing.T) {
	t.Parallel()
	var tally runTally
	check := func(m impl.Module) {
		if _, code, _ := impl.Verify(m); code != impl.CodeOK {
			return
		}
		for _, heap := range []int{5, 6, 9, 11, 14, 17} {
			for fuel := range 8 {
				checkRunModel(t, m, heap, fuel, nil, &tally)
			}
			checkRunModel(t, m, heap, 30, []int{1, 3, 5}, &tally)
		}
	}
	// As a function the code is called with a pair and a value or less.
	main := []impl.Ins{insEmpty, ins(impl.InsClosure, 1, 1), insPair, insInt, ins(impl.InsTail, 2)}
	for length := 1; length <= 3; length++ {
		eachRow(shortAlphabet(length), length, func(code []impl.Ins) {
			check(moduleOf(code, ending(0, true)))
			for params := range 3 {
				called := append(slices.Clone(main[:2+params]), ins(impl.InsTail, params))
				check(moduleOf(called, function(params, []bool{true}, code...)))
			}
		})
	}
	tally.checkCodes(t, 100, impl.CodeOK, impl.CodeType, impl.CodeUnset, impl.CodeMemory, impl.CodeFuel)
	tally.checkCodes(t, 3, impl.CodeArity)
}

func TestRunMadeModules(t *testing.T) {
	t.Parallel()
	r := rand.New(rand.NewSource(61))
	var tally runTally
	for n := range 1600 {
		m := runModule(r, []int{0, 2, 10, 40}[n%4])
		checkSafe(t, "made", m)
		whole := checkRunModel(t, m, impl.MaxHeap, 2000, nil, &tally)
		least := leastHeap(m, 2000)
		for _, heap := range []int{least - 1, least, least + 1, least + r.Intn(30), r.Intn(least + 1)} {
			heap = max(0, min(heap, impl.MaxHeap))
			checkRunModel(t, m, heap, 2000, nil, &tally)
			checkRunModel(t, m, heap, r.Intn(whole.Steps+2), madeForced(r, whole.Steps), &tally)
		}
		if whole.Frames > 200 {
			checkRunModel(t, m, impl.MaxHeap, 20000, nil, &tally)
		}
	}
	tally.checkCodes(t, 50, runCodes...)
	if tally.full < 500 {
		t.Errorf("too few runs that collect: %+v", tally)
	}
}

func TestRunMadePrograms(t *testing.T) {
	t.Parallel()
	r := rand.New(rand.NewSource(62))
	var tally runTally
	for range 3000 {
		p := programMaker{r: r}
		// Definitions ahead of what uses them: else most runs end at once.
		forms := strings.Split(p.program(), "\n")
		slices.SortStableFunc(forms, func(a, b string) int {
			return strings.Index(a+"(define", "(define") - strings.Index(b+"(define", "(define")
		})
		m, code := impl.Compile(programOf(strings.Join(forms, "\n")))
		if code != impl.CodeOK {
			continue
		}
		whole := checkRunModel(t, m, impl.MaxHeap, 2000, nil, &tally)
		least := leastHeap(m, 2000)
		for _, heap := range []int{least - 1, least, least + r.Intn(20)} {
			checkRunModel(t, m, max(0, min(heap, impl.MaxHeap)), 2000, madeForced(r, whole.Steps), &tally)
		}
	}
	tally.checkCodes(t, 100, impl.CodeOK, impl.CodeType, impl.CodeArity, impl.CodeUnset, impl.CodeMemory)
}
