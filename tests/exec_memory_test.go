package tests

import (
	"bytes"
	"reflect"
	"testing"

	"loop.example/s01541/impl"
)

// memorySources show symbols and constants, or end in another way.
var memorySources = []string{"", "'ab", "'(ab (cd) ab)", "(cons 'ab (make-vector 3 '(cd)))", "(define x '(ab cd)) (set! x (cons x x)) x", "(let ((v (make-vector 2 'ab))) (vector-set! v 0 v) v)",
	"(car 'ab)", "nowhere", "(if)", "(ab", "1a", "(define f (lambda (n) (cons 'ab (f n)))) (f '(ab))"}

// checkReports asks of Exec or Boot that it leaves its argument and that its
// answers are new memory.
func checkReports(t *testing.T, what string, given []byte, call func(given []byte) impl.Report) {
	t.Helper()
	whole := append(bytes.Clone(given), "behind"...)
	part := whole[:len(given)]
	want := call(bytes.Clone(given))
	first, second := call(part), call(part)
	if string(whole) != string(given)+"behind" {
		t.Errorf("%s: the argument was changed to %q", what, whole)
	}
	spans := append(spansOf("the argument", reflect.ValueOf(whole)), spansOf("the report", reflect.ValueOf(first))...)
	checkApart(t, append(spans, spansOf("the next report", reflect.ValueOf(second))...))
	spoil(second.Text)
	if string(whole) != string(given)+"behind" {
		t.Errorf("%s: the argument was changed through the answer to %q", what, whole)
	}
	spoil(whole)
	checkReport(t, what+", with all else spoiled", first, want)
	checkReport(t, what+", once more", call(bytes.Clone(given)), want)
}

func TestExecMemory(t *testing.T) {
	for _, src := range memorySources {
		checkReports(t, "Exec of "+src, []byte(src), func(given []byte) impl.Report { return impl.Exec(given, 60, 500) })
		checkReports(t, "Exec out of bounds of "+src, []byte(src), func(given []byte) impl.Report { return impl.Exec(given, -1, 500) })
	}
}

func TestBootMemory(t *testing.T) {
	images := [][]byte{nil, []byte("SLA1"), impl.EncodeImage(mainOf(insReturn))}
	for _, src := range memorySources {
		if image := imageOf(src); image != nil {
			images = append(images, image, image[1:])
		}
	}
	for _, image := range images {
		checkReports(t, "Boot of "+brief(image), image, func(given []byte) impl.Report { return impl.Boot(given, 60, 500) })
		checkReports(t, "Boot out of bounds of "+brief(image), image, func(given []byte) impl.Report { return impl.Boot(given, 60, -1) })
	}
}
