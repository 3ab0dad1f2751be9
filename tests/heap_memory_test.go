package tests

import (
	"slices"
	"testing"

	"loop.example/s01541/impl"
)

// spoilInts overwrites all that a list of numbers could reach, also behind its
// end.
func spoilInts(list []int) {
	list = list[:cap(list)]
	for i := range list {
		list[i] = -77
	}
}

// guarded answers a copy of the words with others behind its end.
func guarded(words []int) (part, whole []int) {
	whole = append(slices.Clone(words), fill(9, 55)...)
	return whole[:len(words)], whole
}

// checkHeapMemory calls with a heap, roots and fields, and asks that the
// arguments stay, and that the answers stay when the arguments are overwritten.
func checkHeapMemory(t *testing.T, what string, call func(h impl.Heap, list []int) [][]int) {
	t.Helper()
	words := []int{1, 8, 1, 33, 13, 5, 4, 33, 7, 5, 0, 0, 0, 0, 0, 0}
	list := []int{5, 33}
	want := call(heapOf(len(words), words[:10]...), slices.Clone(list))
	heapPart, heapWhole := guarded(words)
	listPart, listWhole := guarded(list)
	got := call(impl.Heap{Words: heapPart, Top: 10}, listPart)
	if !slices.Equal(heapWhole, append(slices.Clone(words), fill(9, 55)...)) {
		t.Errorf("%s: the heap was changed: %v", what, heapWhole)
	}
	if !slices.Equal(listWhole, append(slices.Clone(list), fill(9, 55)...)) {
		t.Errorf("%s: the list was changed: %v", what, listWhole)
	}
	spoilInts(heapWhole)
	spoilInts(listWhole)
	for i := range got {
		if !slices.Equal(got[i], want[i]) {
			t.Errorf("%s: answer %d is %v with the arguments, was %v", what, i, got[i], want[i])
		}
		spoilInts(got[i])
	}
	again := call(heapOf(len(words), words[:10]...), slices.Clone(list))
	for i := range again {
		if !slices.Equal(again[i], want[i]) {
			t.Errorf("%s: answer %d is %v when an earlier one is overwritten, was %v", what, i, again[i], want[i])
		}
	}
}

// asInts answers the bytes as numbers, with what lies behind them.
func asInts(b []byte) []int {
	list := make([]int, len(b))
	for i, c := range b {
		list[i] = int(c)
	}
	spoil(b)
	return list
}

func TestHeapFunctionsLeaveTheirArguments(t *testing.T) {
	truthOf := func(b bool) [][]int {
		if b {
			return [][]int{{1}}
		}
		return [][]int{{0}}
	}
	checkHeapMemory(t, "ValidHeap", func(h impl.Heap, list []int) [][]int { return truthOf(impl.ValidHeap(h, list)) })
	checkHeapMemory(t, "Alloc", func(h impl.Heap, list []int) [][]int {
		g, w, code := impl.Alloc(h, impl.ObjPair, list)
		return [][]int{g.Words, {g.Top, w, code}}
	})
	checkHeapMemory(t, "Alloc of a vector", func(h impl.Heap, list []int) [][]int {
		g, w, code := impl.Alloc(h, impl.ObjVector, list)
		return [][]int{g.Words, {g.Top, w, code}}
	})
	checkHeapMemory(t, "Collect", func(h impl.Heap, list []int) [][]int {
		g, moved, code := impl.Collect(h, list)
		return [][]int{g.Words, moved, {g.Top, code}}
	})
	checkHeapMemory(t, "Collect of a part", func(h impl.Heap, list []int) [][]int {
		g, moved, code := impl.Collect(h, list[1:])
		return [][]int{g.Words, moved, {g.Top, code}}
	})
	checkHeapMemory(t, "SameShape", func(h impl.Heap, list []int) [][]int {
		return truthOf(impl.SameShape(h, list, h, list))
	})
	checkHeapMemory(t, "ShowWord", func(h impl.Heap, list []int) [][]int {
		return [][]int{asInts(impl.ShowWord(h, list[0], nil))}
	})
}

func TestHeapAnswersShareNothing(t *testing.T) {
	h := heapOf(9, 8, 4, 3)
	for _, roots := range [][]int{{1}, {1, 1, 1}, {4, 1}} {
		g, moved, _ := impl.Collect(h, roots)
		want := slices.Clone(g.Words)
		spoilInts(moved)
		if !slices.Equal(g.Words, want) {
			t.Errorf("the roots of Collect share memory with its heap")
		}
	}
	a, _ := impl.NewHeap(6)
	b, _ := impl.NewHeap(6)
	spoilInts(a.Words)
	if !sameHeap(b, heapOf(6)) {
		t.Errorf("two new heaps share memory")
	}
}

func TestShowWordLeavesNames(t *testing.T) {
	text := []byte("name and more")
	names := [][]byte{text[:4]}
	for _, h := range []impl.Heap{{}, heapOf(5, 9, 2, 2), heapOf(3, 8, 2, 2)} {
		for _, w := range []int{2, 1} {
			if !impl.ValidHeap(h, []int{w}) {
				continue
			}
			spoil(impl.ShowWord(h, w, names))
			if string(text) != "name and more" || len(names[0]) != 4 {
				t.Fatalf("the names were changed: %q", text)
			}
		}
	}
}
