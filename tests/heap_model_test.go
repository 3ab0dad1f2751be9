package tests

import (
	"math/rand"
	"slices"
	"strconv"
	"testing"

	"loop.example/s01541/impl"
)

// thing is an object of a second make of the heap: its fields are things, not
// places.
type thing struct {
	kind   int
	fields []leaf
}

// leaf is a word: a thing, or the word itself where it leads to none.
type leaf struct {
	to   *thing
	word int
}

// split answers the tag and the number of a word by division alone.
func split(w int) (tag, n int) {
	tag = (w%4 + 4) % 4
	return tag, w/4 - (tag-w%4)/4
}

// modelHeap answers the things of a heap by their places, in the order of the
// places, and whether it is valid.
func modelHeap(h impl.Heap) (map[int]*thing, []int, bool) {
	things := map[int]*thing{}
	var places []int
	if len(h.Words) > 20000 || h.Top > len(h.Words) || h.Top < 0 {
		return nil, nil, false
	}
	rest := h.Words[:h.Top]
	for len(rest) > 0 {
		kind, n := split(rest[0])
		least, most := []int{2, 0, 1, 1}[kind], []int{2, 1000, 1000, 1}[kind]
		if n < least || n > most || n > len(rest)-1 {
			return nil, nil, false
		}
		place := h.Top - len(rest)
		things[place] = &thing{kind: kind}
		places = append(places, place)
		rest = rest[n+1:]
	}
	for _, place := range places {
		_, n := split(h.Words[place])
		fields, ok := modelLeaves(things, h.Words[place+1:place+1+n])
		if !ok {
			return nil, nil, false
		}
		if things[place].kind == 2 && (fields[0].to != nil || fields[0].word < 0 || fields[0].word%4 != 0) {
			return nil, nil, false
		}
		things[place].fields = fields
	}
	return things, places, !slices.ContainsFunc(h.Words[h.Top:], func(w int) bool { return w != 0 })
}

func modelLeaves(things map[int]*thing, words []int) ([]leaf, bool) {
	leaves := make([]leaf, len(words))
	for i, w := range words {
		tag, n := split(w)
		leaves[i] = leaf{word: w}
		switch {
		case tag == 1:
			leaves[i] = leaf{to: things[n]}
			if things[n] == nil {
				return nil, false
			}
		case tag == 2 && n < 0, tag == 3 && (n < 0 || n > 4):
			return nil, false
		}
	}
	return leaves, true
}

// modelReach answers what can be reached, in the order in which it is come to.
func modelReach(roots []leaf) []*thing {
	var row []*thing
	known := map[*thing]bool{}
	waiting := slices.Clone(roots)
	for len(waiting) > 0 {
		to := waiting[0].to
		waiting = waiting[1:]
		if to != nil && !known[to] {
			known[to] = true
			row = append(row, to)
			waiting = append(waiting, to.fields...)
		}
	}
	return row
}

// modelCollect lays the things that can be reached one behind another.
func modelCollect(roots []leaf) (words, moved []int) {
	row := modelReach(roots)
	place := map[*thing]int{}
	at := 0
	for _, x := range row {
		place[x] = at
		at += 1 + len(x.fields)
	}
	wordsOf := func(leaves []leaf) []int {
		out := make([]int, len(leaves))
		for i, l := range leaves {
			out[i] = l.word
			if l.to != nil {
				out[i] = ptrWord(place[l.to])
			}
		}
		return out
	}
	for _, x := range row {
		words = append(words, object(x.kind, wordsOf(x.fields)...)...)
	}
	return words, wordsOf(roots)
}

// tail is what stands behind a first field in a list.
type tail leaf

// modelShow keeps what is still to be shown as a stack of texts, leaves and
// tails.
func modelShow(root leaf, names [][]byte) string {
	text := ""
	stack := []any{root}
	for len(stack) > 0 && len(text) <= 1000 {
		var parts []any
		switch top := stack[len(stack)-1].(type) {
		case string:
			text += top
		case leaf:
			parts = modelParts(top, names)
		case tail:
			parts = modelTail(top)
		}
		stack = stack[:len(stack)-1]
		slices.Reverse(parts)
		stack = append(stack, parts...)
	}
	return text[:min(len(text), 1000)]
}

func modelParts(l leaf, names [][]byte) []any {
	if l.to == nil {
		return []any{modelText(l.word, names)}
	}
	switch l.to.kind {
	case 0:
		return []any{"(", l.to.fields[0], tail(l.to.fields[1])}
	case 2:
		return []any{"#proc"}
	case 3:
		return []any{"#box"}
	}
	parts := []any{"#("}
	for i, f := range l.to.fields {
		if i > 0 {
			parts = append(parts, " ")
		}
		parts = append(parts, f)
	}
	return append(parts, ")")
}

func modelTail(l tail) []any {
	if l.to != nil && l.to.kind == 0 {
		return []any{" ", l.to.fields[0], tail(l.to.fields[1])}
	}
	if l.to == nil && l.word == 3 {
		return []any{")"}
	}
	return []any{" . ", leaf(l), ")"}
}

func modelText(w int, names [][]byte) string {
	tag, n := split(w)
	switch {
	case tag == 0:
		return strconv.Itoa(n)
	case tag == 3:
		return []string{"()", "#f", "#t", "#void", "#unset"}[n]
	case n < len(names):
		return string(names[n])
	}
	return "sym" + strconv.Itoa(n)
}

// checkHeapModel holds all functions against the second make.
func checkHeapModel(t *testing.T, h impl.Heap, roots []int) {
	t.Helper()
	things, _, ok := modelHeap(h)
	leaves, fine := modelLeaves(things, roots)
	ok = ok && fine
	if got := impl.ValidHeap(h, roots); got != ok {
		t.Fatalf("%v with roots %v: valid %v, want %v", h, roots, got, ok)
	}
	if !ok {
		checkRefused(t, "a heap", h, roots)
		return
	}
	words, moved := modelCollect(leaves)
	checkCollect(t, brief(h), h, roots, words, moved)
	names := namesOf("", "one", "two")
	for i, w := range roots {
		checkShow(t, h, w, names, modelShow(leaves[i], names))
	}
}

// checkShapeModel asks that two heaps have the same shape when the things that
// can be reached, laid in order, are the same words.
func checkShapeModel(t *testing.T, h impl.Heap, roots []int, g impl.Heap, others []int) bool {
	t.Helper()
	things, _, _ := modelHeap(h)
	leaves, _ := modelLeaves(things, roots)
	words, moved := modelCollect(leaves)
	things, _, _ = modelHeap(g)
	leaves, _ = modelLeaves(things, others)
	partners, partly := modelCollect(leaves)
	want := slices.Equal(words, partners) && slices.Equal(moved, partly)
	checkShape(t, brief(h)+" and "+brief(g)+", "+brief(roots)+" and "+brief(others), h, roots, g, others, want)
	return want
}

// eachRow gives all rows of so many of the things.
func eachRow[T any](things []T, count int, give func([]T)) {
	row := make([]T, count)
	var from func(at int)
	from = func(at int) {
		if at == count {
			give(row)
			return
		}
		for _, thing := range things {
			row[at] = thing
			from(at + 1)
		}
	}
	from(0)
}

func TestSmallHeapsAgainstModel(t *testing.T) {
	words := []int{0, 1, 2, 3, 4, 5, 6, 7, 8, 9, 13, -4, 23}
	valid := 0
	for size := range 5 {
		eachRow(words, size, func(row []int) {
			for top := -1; top <= size+1; top++ {
				h := impl.Heap{Words: row, Top: top}
				checkHeapModel(t, h, nil)
				if !impl.ValidHeap(h, nil) {
					continue
				}
				valid++
				for _, w := range words {
					checkHeapModel(t, h, []int{w})
					checkHeapModel(t, h, []int{1, w})
				}
			}
		})
	}
	if valid < 200 {
		t.Errorf("only %d small heaps are valid", valid)
	}
}

func TestSmallShapesAgainstModel(t *testing.T) {
	var heaps []impl.Heap
	eachRow([]int{1, 5, 7, 9, 3}, 4, func(row []int) {
		if h := heapOf(5, row...); impl.ValidHeap(h, nil) {
			heaps = append(heaps, h)
		}
	})
	same, other := 0, 0
	for _, h := range heaps {
		for _, g := range heaps {
			for _, roots := range [][]int{{1}, {9}, {1, 9}, {9, 1}, {1, 1}} {
				if !impl.ValidHeap(h, []int{1, 9}) || !impl.ValidHeap(g, roots) {
					continue
				}
				if checkShapeModel(t, h, []int{1, 9}[:len(roots)], g, roots) {
					same++
				} else {
					other++
				}
			}
		}
	}
	if same < 100 || other < 100 {
		t.Errorf("%d pairs of heaps are of one shape, %d are not", same, other)
	}
}

// madeThings answers things with fields at random, some of them leading to
// each other.
func madeThings(r *rand.Rand, count int) []*thing {
	all := make([]*thing, count)
	for i := range all {
		all[i] = &thing{kind: r.Intn(4)}
	}
	for _, x := range all {
		n := []int{2, r.Intn(5), 1 + r.Intn(4), 1}[x.kind]
		for range n {
			x.fields = append(x.fields, madeLeaf(r, all))
		}
		if x.kind == 2 {
			x.fields[0] = leaf{word: intWord(r.Intn(3))}
		}
	}
	return all
}

func madeLeaf(r *rand.Rand, all []*thing) leaf {
	plain := []int{0, 4, -4, 2, 6, 3, 7, 11, 15, 19, symWord(9), intWord(-impl.MaxInt)}
	if len(all) > 0 && r.Intn(3) > 0 {
		return leaf{to: all[r.Intn(len(all))]}
	}
	return leaf{word: plain[r.Intn(len(plain))]}
}

// laid answers the heap in which all things lie in this order, with the roots
// there, and some words that are free.
func laid(all []*thing, roots []leaf, free int) (impl.Heap, []int) {
	place := map[*thing]int{}
	at := 0
	for _, x := range all {
		place[x] = at
		at += 1 + len(x.fields)
	}
	h := impl.Heap{Words: make([]int, at+free)}
	put := func(l leaf) int {
		if l.to != nil {
			return ptrWord(place[l.to])
		}
		return l.word
	}
	for _, x := range all {
		h.Words[h.Top] = header(x.kind, len(x.fields))
		for i, f := range x.fields {
			h.Words[h.Top+1+i] = put(f)
		}
		h.Top += 1 + len(x.fields)
	}
	moved := make([]int, len(roots))
	for i, l := range roots {
		moved[i] = put(l)
	}
	return h, moved
}

func TestMadeHeapsAgainstModel(t *testing.T) {
	r := rand.New(rand.NewSource(2))
	for range 3000 {
		all := madeThings(r, r.Intn(14))
		var leaves []leaf
		for range r.Intn(4) {
			leaves = append(leaves, madeLeaf(r, all))
		}
		h, roots := laid(all, leaves, r.Intn(4))
		if !impl.ValidHeap(h, roots) {
			t.Fatalf("%v with roots %v: not valid", h, roots)
		}
		checkHeapModel(t, h, roots)
		checkAllocOnMade(t, r, h, roots)

		r.Shuffle(len(all), func(i, j int) { all[i], all[j] = all[j], all[i] })
		g, others := laid(all, leaves, 3)
		checkShape(t, "objects in another order", h, roots, g, others, true)
		if g.Top == 0 {
			continue
		}
		g.Words[r.Intn(g.Top)] = madeRandomWord(r, g)
		if impl.ValidHeap(g, others) {
			checkShapeModel(t, h, roots, g, others)
		}
		checkHeapModel(t, g, others)
	}
}

// madeRandomWord answers any small word, most often one that leads somewhere.
func madeRandomWord(r *rand.Rand, h impl.Heap) int {
	if r.Intn(2) == 0 {
		return r.Intn(60) - 20
	}
	_, places, _ := modelHeap(h)
	return ptrWord(places[r.Intn(len(places))])
}

func checkAllocOnMade(t *testing.T, r *rand.Rand, h impl.Heap, roots []int) {
	t.Helper()
	x := madeThings(r, 1)[0]
	fields := make([]int, len(x.fields))
	for i, f := range x.fields {
		fields[i] = f.word
		if f.to != nil {
			fields[i] = impl.WordVoid
			if len(roots) > 0 {
				fields[i] = roots[r.Intn(len(roots))]
			}
		}
	}
	code := impl.CodeOK
	if 1+len(fields) > len(h.Words)-h.Top {
		code = impl.CodeMemory
	}
	checkAlloc(t, "an object at random", h, x.kind, fields, code)
	if g, _, code := impl.Alloc(h, x.kind, fields); code == impl.CodeOK {
		checkShape(t, "with one object more", h, roots, g, roots, true)
	}
}
