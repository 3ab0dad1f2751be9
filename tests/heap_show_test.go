package tests

import (
	"bytes"
	"math"
	"slices"
	"strings"
	"testing"

	"loop.example/s01541/impl"
)

func checkShow(t *testing.T, h impl.Heap, w int, names [][]byte, want string) {
	t.Helper()
	if got := impl.ShowWord(h, w, names); string(got) != want {
		t.Errorf("the word %d in %s: %d bytes %.100q, want %d bytes %.100q", w, brief(h), len(got), got, len(want), want)
	}
}

// namesOf answers names from texts.
func namesOf(texts ...string) [][]byte {
	names := make([][]byte, len(texts))
	for i, text := range texts {
		names[i] = []byte(text)
	}
	return names
}

func TestShowPlainWords(t *testing.T) {
	h := heapOf(4)
	texts := map[int]string{
		0: "0", 4: "1", -4: "-1", intWord(impl.MaxInt): greatest, math.MinInt: least,
		impl.WordNil: "()", impl.WordFalse: "#f", impl.WordTrue: "#t", impl.WordVoid: "#void", impl.WordUnset: "#unset",
	}
	for w, want := range texts {
		checkShow(t, h, w, nil, want)
		checkShow(t, impl.Heap{}, w, namesOf("a", "b"), want)
	}
}

func TestShowSymbols(t *testing.T) {
	names := namesOf("a", "", "b c\n(", strings.Repeat("x", 5))
	for i, name := range names {
		checkShow(t, impl.Heap{}, symWord(i), names, string(name))
		checkShow(t, impl.Heap{}, symWord(i), names[:i+1], string(name))
		checkShow(t, impl.Heap{}, symWord(i), names[:i], "sym"+string(rune('0'+i)))
	}
	checkShow(t, impl.Heap{}, symWord(4), names, "sym4")
	checkShow(t, impl.Heap{}, symWord(0), nil, "sym0")
	checkShow(t, impl.Heap{}, symWord(impl.MaxInt), names, "sym"+greatest)
	checkShow(t, impl.Heap{}, symWord(0), [][]byte{nil}, "")
	checkShow(t, heapOf(4, 13, 6, 6, 6), 1, namesOf("a", ""), "#(  )")
}

func TestShowObjects(t *testing.T) {
	words := slices.Concat(object(impl.ObjVector), object(impl.ObjBox, 1), object(impl.ObjClosure, 4, 5),
		object(impl.ObjVector, 4), object(impl.ObjVector, -8, 1, 5, 13, 25, 3, 2), object(impl.ObjVector, 33, 33))
	h := heapOf(40, words...)
	checkShow(t, h, 1, nil, "#()")
	checkShow(t, h, 5, nil, "#box")
	checkShow(t, h, 13, nil, "#proc")
	checkShow(t, h, 25, nil, "#(1)")
	checkShow(t, h, 33, namesOf("name"), "#(-2 #() #box #proc #(1) () name)")
	checkShow(t, h, 65, nil, "#(#(-2 #() #box #proc #(1) () sym0) #(-2 #() #box #proc #(1) () sym0))")
}

func TestShowPairs(t *testing.T) {
	pair := func(first, second int) []int { return object(impl.ObjPair, first, second) }
	// 0 (1), 3 (2 1), 6 (1 . 2), 9 ((1) . 2), 12 ((2 1) (1 . 2)) through 15,
	// 18 (() . #t), 21 (()), 24 a vector, 26 (3 . the vector), 29 a pair that ends with 26.
	words := slices.Concat(pair(4, 3), pair(8, 1), pair(4, 8), pair(1, 8), pair(13, 61), pair(25, 3),
		pair(3, 11), pair(3, 3), object(impl.ObjVector, 1), pair(12, 97), pair(16, 105))
	h := heapOf(40, words...)
	checkShow(t, h, ptrWord(0), nil, "(1)")
	checkShow(t, h, ptrWord(3), nil, "(2 1)")
	checkShow(t, h, ptrWord(6), nil, "(1 . 2)")
	checkShow(t, h, ptrWord(9), nil, "((1) . 2)")
	checkShow(t, h, ptrWord(12), nil, "((2 1) (1 . 2))")
	checkShow(t, h, ptrWord(18), nil, "(() . #t)")
	checkShow(t, h, ptrWord(21), nil, "(())")
	checkShow(t, h, ptrWord(24), nil, "#((1))")
	checkShow(t, h, ptrWord(26), nil, "(3 . #((1)))")
	checkShow(t, h, ptrWord(29), nil, "(4 3 . #((1)))")
	for w, text := range map[int]string{0: "0", 2: "sym0", 7: "#f", 15: "#void", 19: "#unset"} {
		checkShow(t, heapOf(3, 8, w, w), 1, nil, "("+text+" . "+text+")")
		checkShow(t, heapOf(3, 8, w, 3), 1, nil, "("+text+")")
	}
	checkShow(t, heapOf(5, 8, 13, 13, 7, 4), 1, nil, "(#box . #box)")
	checkShow(t, heapOf(5, 8, 13, 13, 6, 4), 1, nil, "(#proc . #proc)")
}

func TestShowWhatIsEndless(t *testing.T) {
	cut := func(text string, again string) string {
		return (text + strings.Repeat(again, impl.MaxShow))[:impl.MaxShow]
	}
	checkShow(t, heapOf(3, 8, 4, 1), 1, nil, cut("(", "1 "))
	checkShow(t, heapOf(3, 8, 1, 3), 1, nil, cut("", "("))
	checkShow(t, heapOf(3, 8, 1, 1), 1, nil, cut("", "("))
	checkShow(t, heapOf(2, 5, 1), 1, nil, cut("", "#("))
	checkShow(t, heapOf(4, 13, 4, 1, 1), 1, nil, cut("", "#(1 "))
	checkShow(t, heapOf(5, 8, 13, 1, 7, 1), 1, nil, cut("(", "#box "))
	checkShow(t, heapOf(6, 8, 4, 13, 8, 8, 1), 13, nil, cut("(", "2 1 "))
	checkShow(t, heapOf(5, 8, 3, 13, 5, 1), 1, nil, cut("", "(() . #("))
	checkShow(t, heapOf(3, 8, 6, 1), 1, namesOf("", ""), cut("(", " "))
	checkShow(t, heapOf(2, 7, 1), 1, nil, "#box")
	checkShow(t, heapOf(3, 10, 0, 1), 1, nil, "#proc")
	wide := heapOf(impl.MaxVector+1, object(impl.ObjVector, fill(impl.MaxVector, 1)...)...)
	checkShow(t, wide, 1, nil, cut("", "#("))
}

// What is shared again and again is as good as endless: 2^6000 texts.
func TestShowWhatIsVeryLong(t *testing.T) {
	words := []int{8, 4, 4}
	for len(words) < 18000 {
		words = append(words, 8, ptrWord(len(words)-3), ptrWord(len(words)-3))
	}
	h := heapOf(impl.MaxHeap, words...)
	checkShow(t, h, ptrWord(len(words)-3), nil, strings.Repeat("(", impl.MaxShow))
	checkShow(t, h, ptrWord(6), nil, "(((1 . 1) 1 . 1) (1 . 1) 1 . 1)")
}

func TestShowCutAtMaxShow(t *testing.T) {
	for size := impl.MaxShow - 12; size < impl.MaxShow+12; size++ {
		name := strings.Repeat("n", size)
		whole := map[string]impl.Heap{
			name:                              heapOf(1, 1),
			"(" + name + ")":                  heapOf(3, 8, 2, 3),
			"(" + name + " . 12)":             heapOf(3, 8, 2, 48),
			"(12 . " + name + ")":             heapOf(3, 8, 48, 2),
			"#(" + name + ")":                 heapOf(2, 5, 2),
			"#(" + name + " -7 #void #unset)": heapOf(5, 17, 2, -28, 15, 19),
			"(" + name + " " + name + ")":     heapOf(6, 8, 2, 13, 8, 2, 3),
			"#(#box " + name + " #proc #())":  heapOf(12, 17, 21, 2, 29, 37, 7, 3, 6, 0, 1),
			"#(" + name + " sym1 () #t #f)":   heapOf(6, 21, 2, 6, 3, 11, 7),
		}
		for text, h := range whole {
			w := 1
			if text == name {
				w = symWord(0)
			}
			checkShow(t, h, w, namesOf(name), text[:min(len(text), impl.MaxShow)])
		}
	}
	long := [][]byte{bytes.Repeat([]byte("long"), impl.MaxShow)}
	checkShow(t, impl.Heap{}, symWord(0), long, string(long[0][:impl.MaxShow]))
}

func TestShowWhatIsNotValid(t *testing.T) {
	h := heapOf(9, 8, 4, 3)
	for _, w := range []int{5, 9, 13, 17, -3, -2, -1, 23} {
		checkShow(t, h, w, namesOf("a"), "")
	}
	for _, bad := range []impl.Heap{{Top: 1}, {Top: -1}, heapOf(3, 8, 5, 3), {Words: []int{1}}} {
		checkShow(t, bad, 4, namesOf("a"), "")
	}
}
