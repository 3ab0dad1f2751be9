package tests

import (
	"fmt"
	"math"
	"slices"
	"testing"

	"loop.example/s01541/impl"
)

func intWord(n int) int { return 4 * n }
func ptrWord(p int) int { return 4*p + 1 }
func symWord(i int) int { return 4*i + 2 }

func header(kind, fields int) int { return 4*fields + kind }

// heapOf answers a heap of a size whose words in use are these.
func heapOf(size int, words ...int) impl.Heap {
	h := impl.Heap{Words: make([]int, size), Top: len(words)}
	copy(h.Words, words)
	return h
}

// object answers a header and its fields.
func object(kind int, fields ...int) []int {
	return append([]int{header(kind, len(fields))}, fields...)
}

// fill answers so many words that are all the same.
func fill(count, w int) []int {
	return slices.Repeat([]int{w}, count)
}

// boxes answers so many words in use, all of them boxes of nil.
func boxes(words int) []int {
	return slices.Repeat([]int{header(impl.ObjBox, 1), impl.WordNil}, words/2)
}

// brief answers the beginning of what is told in a message.
func brief(v any) string {
	return fmt.Sprintf("%.200s", fmt.Sprint(v))
}

func sameHeap(a, b impl.Heap) bool {
	return a.Top == b.Top && slices.Equal(a.Words, b.Words)
}

func checkValidHeap(t *testing.T, what string, h impl.Heap, want bool) {
	t.Helper()
	if got := impl.ValidHeap(h, nil); got != want {
		t.Errorf("%s: valid %v, want %v for %s", what, got, want, brief(h))
	}
	if want {
		return
	}
	checkRefused(t, what, h, nil)
}

// checkRefused asks that no function takes a heap and roots that are not valid.
func checkRefused(t *testing.T, what string, h impl.Heap, roots []int) {
	t.Helper()
	if impl.ValidHeap(h, roots) {
		t.Errorf("%s: valid", what)
	}
	if g, moved, code := impl.Collect(h, roots); code != impl.CodeBad || g.Top != 0 || len(g.Words)+len(moved) > 0 {
		t.Errorf("%s: Collect answers %s, %s, code %d", what, brief(g), brief(moved), code)
	}
	if impl.SameShape(h, roots, h, roots) {
		t.Errorf("%s: has the shape of itself", what)
	}
	if impl.SameShape(h, roots, impl.Heap{}, nil) || impl.SameShape(impl.Heap{}, nil, h, roots) {
		t.Errorf("%s: has the shape of an empty heap", what)
	}
	if len(roots) > 1 {
		return
	}
	w := append(roots, impl.WordNil)[0]
	if text := impl.ShowWord(h, w, nil); len(text) > 0 {
		t.Errorf("%s: the word %d is shown as %q", what, w, text)
	}
}

func checkAlloc(t *testing.T, what string, h impl.Heap, kind int, fields []int, want int) {
	t.Helper()
	g, w, code := impl.Alloc(h, kind, fields)
	if code != want {
		t.Errorf("%s: code %d, want %d", what, code, want)
		return
	}
	if code != impl.CodeOK {
		if g.Top != 0 || len(g.Words) > 0 || w != 0 {
			t.Errorf("%s: %s and %d beside code %d", what, brief(g), w, code)
		}
		return
	}
	// All words ahead of Top stay, the object follows, the others are 0.
	words := slices.Concat(h.Words[:h.Top], object(kind, fields...))
	if !sameHeap(g, heapOf(len(h.Words), words...)) || w != ptrWord(h.Top) {
		t.Errorf("%s: %s and %d from %s", what, brief(g), w, brief(h))
	}
	if !impl.ValidHeap(g, []int{w}) {
		t.Errorf("%s: %s with the root %d is not valid", what, brief(g), w)
	}
}

func TestConstantsOfHeap(t *testing.T) {
	got := [16]int{impl.ObjPair, impl.ObjVector, impl.ObjClosure, impl.ObjBox, impl.TagInt, impl.TagPtr, impl.TagSym,
		impl.TagRare, impl.WordNil, impl.WordFalse, impl.WordTrue, impl.WordVoid, impl.WordUnset, impl.MaxHeap,
		impl.MaxVector, impl.MaxShow}
	if want := [16]int{0, 1, 2, 3, 0, 1, 2, 3, 3, 7, 11, 15, 19, 20000, 1000, 1000}; got != want {
		t.Errorf("constants %v, want %v", got, want)
	}
}

func TestNewHeapSizes(t *testing.T) {
	for _, size := range []int{0, 1, 7, impl.MaxHeap - 1, impl.MaxHeap} {
		h, code := impl.NewHeap(size)
		if code != impl.CodeOK || !sameHeap(h, heapOf(size)) || !impl.ValidHeap(h, nil) {
			t.Errorf("size %d: code %d, top %d, %d words", size, code, h.Top, len(h.Words))
		}
	}
	for _, size := range []int{-1, impl.MaxHeap + 1, math.MinInt, math.MaxInt} {
		if h, code := impl.NewHeap(size); code != impl.CodeBad || h.Top != 0 || len(h.Words) > 0 {
			t.Errorf("size %d: code %d, top %d, %d words", size, code, h.Top, len(h.Words))
		}
	}
}

func TestValidHeapTopAndSize(t *testing.T) {
	checkValidHeap(t, "the zero heap", impl.Heap{}, true)
	checkValidHeap(t, "words alone", heapOf(5), true)
	checkValidHeap(t, "top at the number of words", heapOf(3, 8, 4, 4), true)
	checkValidHeap(t, "top one beyond", impl.Heap{Words: []int{8, 4, 4}, Top: 4}, false)
	checkValidHeap(t, "top beyond no words", impl.Heap{Top: 1}, false)
	checkValidHeap(t, "top below 0", impl.Heap{Words: []int{0, 0}, Top: -1}, false)
	checkValidHeap(t, "the least top", impl.Heap{Words: []int{0, 0}, Top: math.MinInt}, false)
	checkValidHeap(t, "the greatest top", impl.Heap{Words: []int{0, 0}, Top: math.MaxInt}, false)
	checkValidHeap(t, "MaxHeap words", heapOf(impl.MaxHeap), true)
	checkValidHeap(t, "one word more", heapOf(impl.MaxHeap+1), false)
	checkValidHeap(t, "MaxHeap words in use", heapOf(impl.MaxHeap, boxes(impl.MaxHeap)...), true)
	checkValidHeap(t, "as many in use, one word more", heapOf(impl.MaxHeap+1, boxes(impl.MaxHeap)...), false)
}

func TestValidHeapBehindTop(t *testing.T) {
	for at := 3; at < 6; at++ {
		for _, w := range []int{1, -1, impl.WordNil, 4, math.MinInt} {
			h := heapOf(6, 8, 4, 4)
			h.Words[at] = w
			checkValidHeap(t, "a word behind top", h, false)
		}
	}
	last := heapOf(impl.MaxHeap)
	last.Words[impl.MaxHeap-1] = 1
	checkValidHeap(t, "the last word", last, false)
	checkValidHeap(t, "a whole object behind top", impl.Heap{Words: []int{8, 4, 4, 1}, Top: 3}, false)
	checkValidHeap(t, "top within an object", impl.Heap{Words: []int{8, 0, 0}, Top: 1}, false)
	checkValidHeap(t, "top ahead of the last field", impl.Heap{Words: []int{8, 0, 0}, Top: 2}, false)
	checkValidHeap(t, "top ahead of all", impl.Heap{Words: []int{0, 0, 0}, Top: 0}, true)
}

func TestValidHeapCounts(t *testing.T) {
	counts := map[int][2]int{
		impl.ObjPair: {2, 2}, impl.ObjVector: {0, impl.MaxVector}, impl.ObjClosure: {1, impl.MaxVector}, impl.ObjBox: {1, 1},
	}
	for kind, bounds := range counts {
		for _, n := range []int{0, 1, 2, 3, 4, impl.MaxVector - 1, impl.MaxVector, impl.MaxVector + 1} {
			want := bounds[0] <= n && n <= bounds[1]
			words := object(kind, fill(n, 0)...)
			checkValidHeap(t, "an object", heapOf(len(words), words...), want)
			checkValidHeap(t, "an object and room", heapOf(len(words)+9, words...), want)
			if n > 0 {
				checkValidHeap(t, "an object and its last field missing", heapOf(len(words)+9, words[:n]...), false)
			}
			code := impl.CodeBad
			if want {
				code = impl.CodeOK
			}
			checkAlloc(t, "an object", heapOf(len(words)), kind, fill(n, 0), code)
		}
		for _, n := range []int{-1, -2, -impl.MaxVector, math.MinInt / 4} {
			words := append([]int{header(kind, n)}, fill(5, 0)...)
			checkValidHeap(t, "a negative header", heapOf(9, words...), false)
			checkValidHeap(t, "a negative header behind an object", heapOf(12, slices.Concat([]int{8, 4, 4}, words)...), false)
		}
		for _, n := range []int{math.MaxInt / 4, math.MaxInt/4 - 1} {
			checkValidHeap(t, "a great header", heapOf(9, header(kind, n), 4, 4), false)
		}
	}
}

func TestValidHeapRows(t *testing.T) {
	all := slices.Concat(object(impl.ObjPair, 4, 3), object(impl.ObjVector), object(impl.ObjVector, 6, 7),
		object(impl.ObjClosure, 8, 1), object(impl.ObjBox, 19), object(impl.ObjVector))
	checkValidHeap(t, "objects of all kinds", heapOf(20, all...), true)
	checkValidHeap(t, "nothing but empty vectors", heapOf(5, 1, 1, 1, 1, 1), true)
	checkValidHeap(t, "a field without an object", heapOf(20, append(all, 0)...), false)
	checkValidHeap(t, "a header without its fields", heapOf(20, append(all, 7)...), false)
}

func TestValidHeapClosures(t *testing.T) {
	for _, w := range []int{0, 4, intWord(impl.MaxInt), math.MaxInt - 3} {
		checkValidHeap(t, "a closure", heapOf(2, 6, w), true)
		checkValidHeap(t, "a closure with more", heapOf(4, 14, w, 1, 19), true)
		checkAlloc(t, "a closure", heapOf(2), impl.ObjClosure, []int{w}, impl.CodeOK)
	}
	for _, w := range []int{-4, math.MinInt, 1, 2, 3, 7, 11, 15, 19, 5, -1, -2, -3} {
		h := heapOf(4, 6, w)
		checkValidHeap(t, "a closure's first field", h, false)
		checkAlloc(t, "a closure's first field", heapOf(9, 8, 4, 4), impl.ObjClosure, []int{w}, impl.CodeBad)
		checkAlloc(t, "a closure's first field", heapOf(9, 8, 4, 4), impl.ObjClosure, []int{w, 0}, impl.CodeBad)
	}
	checkValidHeap(t, "a closure's second field", heapOf(3, 10, 0, -4), true)
}

// wordCases are words of each tag, and whether they are valid in a heap with
// objects at the places 0, 3 and 5 and its top at 9.
func wordCases() map[int]bool {
	cases := map[int]bool{}
	for _, w := range []int{0, 4, -4, 40, math.MinInt, math.MinInt + 4, math.MaxInt - 3, 1, 13, 21, 2, 6, symWord(impl.MaxInt),
		3, 7, 11, 15, 19} {
		cases[w] = true
	}
	// Places inside an object, at top, behind it and below 0; symbols below 0;
	// rare words that are none of the five.
	for _, w := range []int{5, 9, 17, 25, 29, 33, 37, 41, 77, 81, 85, ptrWord(impl.MaxHeap), math.MaxInt - 2, -3, -7,
		-11, math.MinInt + 1, -2, -6, math.MinInt + 2, 23, 27, -1, -5, -13, math.MaxInt, math.MinInt + 3} {
		cases[w] = false
	}
	return cases
}

func TestValidWordsAsRootsAndFields(t *testing.T) {
	// A pair at 0, a box at 3, a vector of three at 5, top at 9.
	words := slices.Concat(object(impl.ObjPair, 4, 3), object(impl.ObjBox, 1), object(impl.ObjVector, 0, 13, 21))
	h := heapOf(20, words...)
	for w, want := range wordCases() {
		if got := impl.ValidHeap(h, []int{w}); got != want {
			t.Errorf("the root %d: valid %v", w, got)
		}
		if got := impl.ValidHeap(h, []int{4, 1, w, 3}); got != want {
			t.Errorf("the root %d among others: valid %v", w, got)
		}
		code := impl.CodeOK
		if !want {
			code = impl.CodeBad
			checkRefused(t, "a root", h, []int{w})
			checkRefused(t, "a root among others", h, []int{w, 4})
		}
		checkAlloc(t, "a box", h, impl.ObjBox, []int{w}, code)
		checkAlloc(t, "a vector", h, impl.ObjVector, []int{3, w, 4}, code)
		checkAlloc(t, "a closure", h, impl.ObjClosure, []int{4, w}, code)
		checkAlloc(t, "a pair", h, impl.ObjPair, []int{4, w}, code)
		for _, at := range []int{1, 2, 4, 6, 7, 8} {
			changed := heapOf(20, words...)
			changed.Words[at] = w
			checkValidHeap(t, "a field", changed, want)
		}
	}
}

func TestRootsCount(t *testing.T) {
	h := heapOf(5, 8, 4, 3)
	if !impl.ValidHeap(h, fill(impl.MaxHeap, 1)) {
		t.Errorf("MaxHeap roots: not valid")
	}
	checkRefused(t, "one root more", h, fill(impl.MaxHeap+1, 1))
	g, moved, code := impl.Collect(h, fill(impl.MaxHeap, 1))
	if code != impl.CodeOK || g.Top != 3 || !slices.Equal(moved, fill(impl.MaxHeap, 1)) {
		t.Errorf("Collect with MaxHeap roots: code %d, top %d, %d roots", code, g.Top, len(moved))
	}
	if !impl.SameShape(h, fill(impl.MaxHeap, 1), h, fill(impl.MaxHeap, 1)) {
		t.Errorf("SameShape with MaxHeap roots")
	}
	if impl.SameShape(h, fill(impl.MaxHeap+1, 1), h, fill(impl.MaxHeap+1, 1)) {
		t.Errorf("SameShape with one root more")
	}
}

func TestAllocRoom(t *testing.T) {
	for free := range 6 {
		h := heapOf(3+free, 8, 4, 3)
		for n := range 6 {
			code := impl.CodeOK
			if 1+n > free {
				code = impl.CodeMemory
			}
			checkAlloc(t, "a vector", h, impl.ObjVector, fill(n, 1), code)
		}
	}
	checkAlloc(t, "no words at all", impl.Heap{}, impl.ObjVector, nil, impl.CodeMemory)
	checkAlloc(t, "all but two words in use", heapOf(impl.MaxHeap, boxes(impl.MaxHeap-2)...), impl.ObjBox, []int{1}, impl.CodeOK)
	checkAlloc(t, "all but two words in use", heapOf(impl.MaxHeap, boxes(impl.MaxHeap-2)...), impl.ObjPair, []int{1, 1}, impl.CodeMemory)
	checkAlloc(t, "all words in use", heapOf(impl.MaxHeap, boxes(impl.MaxHeap)...), impl.ObjVector, nil, impl.CodeMemory)
}

func TestAllocBadAheadOfMemory(t *testing.T) {
	full := heapOf(3, 8, 4, 3)
	checkAlloc(t, "a full heap", full, impl.ObjBox, []int{4}, impl.CodeMemory)
	checkAlloc(t, "a kind below", full, -1, []int{4}, impl.CodeBad)
	checkAlloc(t, "a kind beyond", full, 4, []int{4}, impl.CodeBad)
	checkAlloc(t, "a kind with the low bits of a box", full, 7, []int{4}, impl.CodeBad)
	checkAlloc(t, "the least kind", full, math.MinInt, nil, impl.CodeBad)
	checkAlloc(t, "the greatest kind", full, math.MaxInt, []int{4}, impl.CodeBad)
	checkAlloc(t, "too few fields", full, impl.ObjPair, []int{4}, impl.CodeBad)
	checkAlloc(t, "too many fields", full, impl.ObjVector, fill(impl.MaxVector+1, 4), impl.CodeBad)
	checkAlloc(t, "a field that is not valid", full, impl.ObjBox, []int{5}, impl.CodeBad)
	checkAlloc(t, "a function below 0", full, impl.ObjClosure, []int{-4}, impl.CodeBad)
	for _, h := range []impl.Heap{{Top: -1}, {Top: 1}, heapOf(3, 8, 5, 3), heapOf(impl.MaxHeap + 1), {Words: []int{1}}} {
		checkAlloc(t, "a heap that is not valid", h, impl.ObjVector, nil, impl.CodeBad)
	}
}

func TestAllocDoesNotLeadToItself(t *testing.T) {
	h := heapOf(20, 8, 4, 3)
	checkAlloc(t, "a box of itself", h, impl.ObjBox, []int{ptrWord(3)}, impl.CodeBad)
	checkAlloc(t, "a pair of itself", h, impl.ObjPair, []int{1, ptrWord(3)}, impl.CodeBad)
	checkAlloc(t, "a box of the object ahead", h, impl.ObjBox, []int{1}, impl.CodeOK)
}

func TestAllocInARow(t *testing.T) {
	steps := []struct {
		kind   int
		fields []int
		word   int
	}{
		{impl.ObjVector, nil, 1},
		{impl.ObjPair, []int{1, 1}, 5},
		{impl.ObjClosure, []int{intWord(7), 5, 1}, 17},
		{impl.ObjBox, []int{17}, 33},
		{impl.ObjVector, []int{33, 5}, 41},
	}
	h, _ := impl.NewHeap(13)
	var words []int
	for i, s := range steps {
		checkAlloc(t, "a step", h, s.kind, s.fields, impl.CodeOK)
		words = append(words, object(s.kind, s.fields...)...)
		g, w, _ := impl.Alloc(h, s.kind, s.fields)
		if w != s.word || !sameHeap(g, heapOf(13, words...)) {
			t.Fatalf("object %d: %v, %d", i, g, w)
		}
		h = g
	}
	checkAlloc(t, "one more", h, impl.ObjVector, nil, impl.CodeMemory)
}
