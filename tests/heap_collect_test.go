package tests

import (
	"slices"
	"testing"

	"loop.example/s01541/impl"
)

// checkCollect asks for the words in use and the roots, and for all that
// Collect promises of any valid heap.
func checkCollect(t *testing.T, what string, h impl.Heap, roots, words, moved []int) {
	t.Helper()
	g, got, code := impl.Collect(h, roots)
	if code != impl.CodeOK || !sameHeap(g, heapOf(len(h.Words), words...)) || !slices.Equal(got, moved) {
		t.Errorf("%s: %s with roots %s, code %d, want %s with roots %s", what, brief(g), brief(got), code, brief(words), brief(moved))
		return
	}
	checkKept(t, what, h, roots, g, got)
}

// checkKept asks promise 2 of what Collect has answered.
func checkKept(t *testing.T, what string, h impl.Heap, roots []int, g impl.Heap, moved []int) {
	t.Helper()
	if !impl.ValidHeap(g, moved) {
		t.Errorf("%s: not valid when it is collected", what)
	}
	if !impl.SameShape(h, roots, g, moved) || !impl.SameShape(g, moved, h, roots) {
		t.Errorf("%s: of another shape when it is collected", what)
	}
	again, once, code := impl.Collect(g, moved)
	if code != impl.CodeOK || !sameHeap(again, g) || !slices.Equal(once, moved) {
		t.Errorf("%s: collected once more: %s, %s, code %d", what, brief(again), brief(once), code)
	}
}

func checkShape(t *testing.T, what string, h impl.Heap, roots []int, g impl.Heap, others []int, want bool) {
	t.Helper()
	if !impl.ValidHeap(h, roots) || !impl.ValidHeap(g, others) {
		t.Errorf("%s: not valid", what)
	}
	if got := impl.SameShape(h, roots, g, others); got != want {
		t.Errorf("%s: the same %v, want %v", what, got, want)
	}
	if got := impl.SameShape(g, others, h, roots); got != want {
		t.Errorf("%s: the same the other way round %v, want %v", what, got, want)
	}
	if !impl.SameShape(h, roots, h, roots) || !impl.SameShape(g, others, g, others) {
		t.Errorf("%s: not of its own shape", what)
	}
}

func TestCollectNothing(t *testing.T) {
	checkCollect(t, "the zero heap", impl.Heap{}, nil, nil, nil)
	checkCollect(t, "an empty heap", heapOf(7), nil, nil, nil)
	checkCollect(t, "no roots", heapOf(7, 8, 4, 3, 1), nil, nil, nil)
	plain := []int{0, -4, 4, 2, 6, 3, 7, 11, 15, 19}
	checkCollect(t, "roots that lead nowhere", heapOf(7, 8, 4, 3), plain, nil, plain)
}

func TestCollectOrder(t *testing.T) {
	// Places: 0 box, 2 box, 4 box, 6 pair of 4 and 9, 9 vector of 0 and 2.
	h := heapOf(30, 7, 4, 7, 8, 7, 12, 8, 17, 37, 9, 1, 9)
	checkCollect(t, "one root", h, []int{25}, []int{8, 13, 21, 7, 12, 9, 33, 41, 7, 4, 7, 8}, []int{1})
	checkCollect(t, "roots in their order", h, []int{17, 9, 1}, []int{7, 12, 7, 8, 7, 4}, []int{1, 9, 17})
	checkCollect(t, "roots ahead of fields", h, []int{25, 9}, []int{8, 21, 29, 7, 8, 7, 12, 9, 41, 13, 7, 4}, []int{1, 13})
	checkCollect(t, "nothing to leave out", h, []int{1, 9, 17, 25, 37}, []int{7, 4, 7, 8, 7, 12, 8, 17, 37, 9, 1, 9},
		[]int{1, 9, 17, 25, 37})
	checkCollect(t, "a root twice, others between", h, []int{9, 4, 1, 9, 3, 1}, []int{7, 8, 7, 4}, []int{1, 4, 9, 1, 3, 9})
}

func TestCollectBreadthAheadOfDepth(t *testing.T) {
	// A tree whose branches lie as they are first come to, with a vector of no
	// use between: 0 (4 . 7), 3 the vector, 4 (10 . 12), 7 (14 . 16), then boxes.
	h := heapOf(40, 8, 17, 29, 1, 8, 41, 49, 8, 57, 65, 7, 4, 7, 8, 7, 12, 7, 16)
	words := []int{8, 13, 25, 8, 37, 45, 8, 53, 61, 7, 4, 7, 8, 7, 12, 7, 16}
	checkCollect(t, "a tree", h, []int{1}, words, []int{1})
}

func TestCollectShared(t *testing.T) {
	h := heapOf(12, 1, 8, 1, 1, 8, 5, 5, 7, 4)
	checkCollect(t, "by two ways", h, []int{17}, []int{8, 13, 13, 8, 25, 25, 1}, []int{1})
	checkCollect(t, "by root and field", h, []int{1, 5}, []int{1, 8, 1, 1}, []int{1, 5})
	checkCollect(t, "by three roots", h, []int{29, 29, 29}, []int{7, 4}, []int{1, 1, 1})
}

func TestCollectCircles(t *testing.T) {
	checkCollect(t, "a box of itself", heapOf(4, 7, 1), []int{1}, []int{7, 1}, []int{1})
	checkCollect(t, "a box of itself, moved", heapOf(6, 1, 1, 7, 9), []int{9}, []int{7, 1}, []int{1})
	checkCollect(t, "two boxes of each other", heapOf(6, 7, 9, 7, 1), []int{9}, []int{7, 9, 7, 1}, []int{1})
	checkCollect(t, "a circle that is not reached", heapOf(6, 7, 9, 7, 1), []int{3}, nil, []int{3})
	checkCollect(t, "a closure of itself", heapOf(8, 1, 10, 0, 5), []int{5}, []int{10, 0, 1}, []int{1})
	checkCollect(t, "a vector of itself", heapOf(8, 1, 13, 5, 1, 5), []int{5}, []int{13, 1, 17, 1, 1}, []int{1})
}

func TestCollectEmptyVectors(t *testing.T) {
	h := heapOf(6, 1, 1, 1, 5, 5)
	checkCollect(t, "one of three", h, []int{9}, []int{1}, []int{1})
	checkCollect(t, "the last first", h, []int{9, 1}, []int{1, 1}, []int{1, 5})
	checkCollect(t, "a vector of one", h, []int{13}, []int{5, 9, 1}, []int{1})
}

func TestCollectWordsThatLookAlike(t *testing.T) {
	// Numbers and symbols stay though a header or a place has the same number,
	// and headers stay though they look like words that lead somewhere.
	fields := []int{0, 4, 8, -4, 2, 6, 10, 3, 7, 11, 15, 19}
	words := append(object(impl.ObjVector, fields...), object(impl.ObjClosure, 0, 4, 6)...)
	h := heapOf(40, slices.Concat([]int{1, 5, 1}, words)...)
	checkCollect(t, "words of all tags", h, []int{ptrWord(3), ptrWord(16)}, words, []int{1, ptrWord(13)})
}

func TestCollectFull(t *testing.T) {
	chain := make([]int, 0, impl.MaxHeap)
	for len(chain) < impl.MaxHeap-2 {
		chain = append(chain, header(impl.ObjBox, 1), ptrWord(len(chain)+2))
	}
	chain = append(chain, header(impl.ObjBox, 1), impl.WordNil)
	h := heapOf(impl.MaxHeap, chain...)
	checkCollect(t, "a chain of MaxHeap words", h, []int{1}, chain, []int{1})
	checkCollect(t, "its last box", h, []int{ptrWord(impl.MaxHeap - 2)}, []int{7, 3}, []int{1})
	other := heapOf(impl.MaxHeap, chain...)
	other.Words[impl.MaxHeap-1] = impl.WordVoid
	checkShape(t, "two chains with other ends", h, []int{1}, other, []int{1}, false)
	other.Words[impl.MaxHeap-1] = ptrWord(0)
	checkShape(t, "a chain and a circle", h, []int{1}, other, []int{1}, false)
	checkCollect(t, "a circle of MaxHeap words", other, []int{1}, other.Words, []int{1})
}

func TestShapeOfRoots(t *testing.T) {
	h := heapOf(9, 8, 4, 3, 8, 4, 3)
	checkShape(t, "no roots", h, nil, impl.Heap{}, nil, true)
	checkShape(t, "roots that are not as many", h, []int{4}, h, []int{4, 4}, false)
	checkShape(t, "none and one", h, nil, h, []int{1}, false)
	checkShape(t, "one and the same twice", h, []int{1}, h, []int{1, 1}, false)
	checkShape(t, "other objects with the same fields", h, []int{1}, h, []int{13}, true)
	checkShape(t, "sizes and garbage do not count", h, []int{13}, heapOf(3, 8, 4, 3), []int{1}, true)
	for w, valid := range wordCases() {
		if !valid || w == 13 || w == 21 {
			continue
		}
		checkShape(t, "a word and itself", h, []int{w}, h, []int{w}, true)
		for v, valid := range wordCases() {
			if valid && v != 13 && v != 21 && v != w {
				checkShape(t, "two words", h, []int{w}, h, []int{v}, false)
			}
		}
	}
}

func TestShapeOfHeaders(t *testing.T) {
	h := heapOf(20, 1, 5, 4, 7, 4, 6, 4, 8, 4, 4, 9, 4, 4, 10, 4, 4)
	places := []int{0, 1, 3, 5, 7, 10, 13}
	for _, p := range places {
		for _, q := range places {
			checkShape(t, "two objects", h, []int{ptrWord(p)}, h, []int{ptrWord(q)}, p == q)
		}
	}
	// The same words at the same places do not do: the objects count.
	checkShape(t, "another field", heapOf(2, 7, 4), []int{1}, heapOf(2, 7, 8), []int{1}, false)
	checkShape(t, "another kind", heapOf(2, 7, 4), []int{1}, heapOf(2, 5, 4), []int{1}, false)
	checkShape(t, "another function", heapOf(2, 6, 4), []int{1}, heapOf(2, 6, 8), []int{1}, false)
	checkShape(t, "another last field", heapOf(4, 13, 4, 4, 4), []int{1}, heapOf(4, 13, 4, 4, 3), []int{1}, false)
}

func TestShapeOfWhatIsShared(t *testing.T) {
	one := heapOf(20, 8, 13, 13, 7, 4)
	two := heapOf(20, 8, 13, 21, 7, 4, 7, 4)
	swapped := heapOf(20, 8, 21, 13, 7, 4, 7, 4)
	checkShape(t, "one box twice and two boxes", one, []int{1}, two, []int{1}, false)
	checkShape(t, "two boxes in another order", two, []int{1}, swapped, []int{1}, true)
	checkShape(t, "what is shared among roots", two, []int{13, 21}, two, []int{13, 13}, false)
	checkShape(t, "what is shared by root and field", two, []int{1, 13}, two, []int{1, 21}, false)
	checkShape(t, "roots in another order", two, []int{13, 21}, two, []int{21, 13}, true)
	checkShape(t, "empty vectors shared", heapOf(5, 9, 13, 13, 1), []int{1}, heapOf(5, 9, 13, 17, 1, 1), []int{1}, false)
	checkShape(t, "the other twin changed", two, []int{1, 13, 21}, swapped, []int{1, 13, 21}, false)
	checkShape(t, "both twins changed", two, []int{1, 13, 21}, swapped, []int{1, 21, 13}, true)
}

func TestShapeOfCircles(t *testing.T) {
	self := heapOf(9, 7, 1)
	pair := heapOf(9, 7, 9, 7, 1)
	three := heapOf(9, 7, 9, 7, 17, 7, 1)
	into := heapOf(9, 7, 9, 7, 9)
	heaps := []impl.Heap{self, pair, three, into}
	for i, h := range heaps {
		for j, g := range heaps {
			checkShape(t, "two circles", h, []int{1}, g, []int{1}, i == j)
		}
	}
	checkShape(t, "a circle from another box", pair, []int{1}, pair, []int{9}, true)
	checkShape(t, "both boxes", pair, []int{1, 9}, pair, []int{9, 1}, true)
	checkShape(t, "one box twice", pair, []int{1, 9}, pair, []int{1, 1}, false)
	checkShape(t, "the end of a way into a circle", into, []int{9}, self, []int{1}, true)
}

func TestShapeOfHeapsThatAreNotValid(t *testing.T) {
	good := heapOf(3, 8, 4, 3)
	for _, bad := range []impl.Heap{heapOf(3, 8, 5, 3), {Top: -1}, {Words: []int{8, 4, 3, 1}, Top: 3}} {
		if impl.SameShape(good, nil, bad, nil) || impl.SameShape(bad, nil, good, nil) || impl.SameShape(bad, nil, bad, nil) {
			t.Errorf("%v: has a shape", bad)
		}
	}
	if impl.SameShape(good, []int{5}, good, []int{5}) || impl.SameShape(good, []int{4}, good, []int{5}) {
		t.Errorf("a root that is not valid")
	}
}
