package tests

import (
	"reflect"
	"slices"
	"testing"

	"loop.example/s01541/impl"
)

// runModules show what constants have in them, write into objects made of them,
// and end in several ways.
func runModules(t *testing.T) []impl.Module {
	all := append(memoryModules(), imageModules()...)
	for _, src := range []string{"'ab", "'(ab (cd) ab)", "(cons 'ab (make-vector 3 '(cd)))", "(let ((v (make-vector 2 'ab))) (vector-set! v 0 v) v)",
		"(define x '(ab cd)) (set! x (cons x x)) x", "(car 'ab)", "(cons 'ab nowhere) (define nowhere 1)", "(define f (lambda (n) (cons 'ab (f n)))) (f '(ab))"} {
		all = append(all, compiled(t, src))
	}
	return all
}

func TestRunLeavesItsArguments(t *testing.T) {
	for n, m := range runModules(t) {
		for _, forced := range [][]int{nil, {3, 0, 3, -1, 99, 2}, allSteps(60)} {
			part, kept := roomy(m)
			listPart, listWhole := guarded(forced)
			o := impl.Run(part, 60, 500, listPart)
			spoil(o.Text)
			if got := wholeOf(part); !reflect.DeepEqual(got, kept) {
				t.Errorf("module %d was changed to %s", n, brief(got))
			}
			if !slices.Equal(listWhole, append(slices.Clone(forced), fill(9, 55)...)) {
				t.Errorf("module %d: the list was changed to %v", n, listWhole)
			}
		}
	}
}

func TestRunAnswersNewMemory(t *testing.T) {
	for n, m := range runModules(t) {
		want := impl.Run(m, 60, 500, []int{1, 2})
		given, forced := copyModule(m), []int{1, 2}
		first, second := impl.Run(given, 60, 500, forced), impl.Run(given, 60, 500, forced)
		spans := append(spansOf("the module", reflect.ValueOf(given)), spansOf("the list", reflect.ValueOf(forced))...)
		spans = append(spans, spansOf("the outcome", reflect.ValueOf(first))...)
		checkApart(t, append(spans, spansOf("the next outcome", reflect.ValueOf(second))...))
		spoilModule(given)
		spoilInts(forced)
		spoil(second.Text)
		if !sameOutcome(first, want) {
			t.Errorf("module %d: changed to %s", n, shown(first))
		}
		if again := impl.Run(m, 60, 500, []int{1, 2}); !sameOutcome(again, want) {
			t.Errorf("module %d: %s, then %s", n, shown(want), shown(again))
		}
	}
}
