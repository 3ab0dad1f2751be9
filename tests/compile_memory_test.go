package tests

import (
	"bytes"
	"reflect"
	"slices"
	"testing"

	"loop.example/s01541/impl"
)

// memoryPrograms have constants of the same texts and parts, captured values of
// several functions, and unbound symbols, and some come to no module.
func memoryPrograms() [][]impl.Datum {
	all := [][]impl.Datum{nil, row(list(2), sym("ab"))}
	for _, src := range []string{
		"'ab '(ab cd) '(cd ab (ab)) 'cd '() 5 #t (and)",
		"(define ab 1) (lambda (x y) (lambda (z) (set! x 'ab) (cons x (cons y z))) (lambda () y x))",
		"(let ((ab 'ab) (cd '(1 2))) (lambda () (lambda () ab cd))) '(1 2 3)",
		"(ab cd (lambda (ab) ef ab)) ab ef",
		"(ab (if))",
		"(1 1 1 1 1 1 1 1 1 1 1 1 1 1 1 1 1 1 1 1 1 1 1 'ab)",
	} {
		all = append(all, programOf(src))
	}
	return all
}

// roomyData answers the same data with room behind the list and behind each
// text, also the empty ones, and the list in its whole length.
func roomyData(data []impl.Datum) (part, whole []impl.Datum) {
	whole = append(slices.Clone(data), sym("behind"))
	for i, d := range data {
		text := append(bytes.Clone(d.Text), "behind"...)
		whole[i].Text = text[:len(d.Text)]
	}
	return whole[:len(data)], whole
}

// wholeTexts answers data as they are, with what stands behind their texts.
func wholeTexts(data []impl.Datum) []impl.Datum {
	kept := slices.Clone(data)
	for i, d := range data {
		kept[i].Text = bytes.Clone(d.Text[:cap(d.Text)])
	}
	return kept
}

func spoilData(data []impl.Datum) {
	for i := range data {
		spoil(data[i].Text)
		data[i] = impl.Datum{Kind: 9, N: 9}
	}
}

func TestCompileLeavesItsArgument(t *testing.T) {
	for n, data := range memoryPrograms() {
		part, whole := roomyData(data)
		kept := wholeTexts(whole)
		m, _ := impl.Compile(part)
		names := impl.Unbound(part)
		if !reflect.DeepEqual(wholeTexts(whole), kept) {
			t.Errorf("program %d was changed to %s", n, brief(whole))
		}
		spoilModule(m)
		for _, name := range names {
			spoil(name)
		}
		if !reflect.DeepEqual(wholeTexts(whole), kept) {
			t.Errorf("program %d was changed through the answer to %s", n, brief(whole))
		}
	}
}

func TestCompileAnswersNewMemory(t *testing.T) {
	for n, data := range memoryPrograms() {
		want, wantCode := impl.Compile(data)
		_, whole := roomyData(data)
		given := whole[:len(data)]
		first, _ := impl.Compile(given)
		second, _ := impl.Compile(given)
		spans := spansOf("the data", reflect.ValueOf(whole))
		spans = append(spans, spansOf("the module", reflect.ValueOf(first))...)
		checkApart(t, append(spans, spansOf("the next module", reflect.ValueOf(second))...))
		spoilData(whole)
		spoilModule(second)
		if !sameModule(first, want) {
			t.Errorf("program %d: changed to %s", n, brief(first))
		}
		if again, code := impl.Compile(data); !sameModule(again, want) || code != wantCode {
			t.Errorf("program %d: %s, then %s", n, brief(want), brief(again))
		}
	}
}

func TestUnboundAnswersNewMemory(t *testing.T) {
	for n, data := range memoryPrograms() {
		want := impl.Unbound(data)
		_, whole := roomyData(data)
		given := whole[:len(data)]
		first, second := impl.Unbound(given), impl.Unbound(given)
		spans := spansOf("the data", reflect.ValueOf(whole))
		spans = append(spans, spansOf("the symbols", reflect.ValueOf(first))...)
		checkApart(t, append(spans, spansOf("the next symbols", reflect.ValueOf(second))...))
		spoilData(whole)
		for _, name := range second {
			spoil(name)
		}
		if !slices.EqualFunc(first, want, bytes.Equal) {
			t.Errorf("program %d: changed to %q", n, first)
		}
		if again := impl.Unbound(data); !slices.EqualFunc(again, want, bytes.Equal) {
			t.Errorf("program %d: %q, then %q", n, want, again)
		}
	}
}
