package tests

import (
	"bytes"
	"math/rand"
	"slices"
	"sort"
	"strings"
	"testing"

	"loop.example/s01541/impl"
)

// execTally counts the codes of reports, and the long ones among the runs.
type execTally struct {
	codes [impl.CodeFuel + 1]int
	long  int
}

func (c *execTally) count(r impl.Report) {
	c.codes[r.Code]++
	if r.Steps > 200 {
		c.long++
	}
}

// checkCodes asks for so many reports of each of the codes.
func (c *execTally) checkCodes(t *testing.T, least int, codes ...int) {
	t.Helper()
	for _, code := range codes {
		if c.codes[code] < least {
			t.Errorf("only %d reports with code %d: %+v", c.codes[code], code, *c)
		}
	}
}

// checkMeaning asks that a source comes to what it means. Only a heap with less
// words than were ever asked for may be full.
func checkMeaning(t *testing.T, src string, heap, fuel int, tally *execTally) impl.Report {
	t.Helper()
	want := meaningOf(src, fuel)
	got := impl.Exec([]byte(src), heap, fuel)
	if want.ran && sameReport(got, impl.Report{Code: impl.CodeLimit}) {
		_, want.report.Code, _ = modelCompile(treesOf(src))
		want.report.Steps, want.report.Text = 0, nil
	}
	full := got.Code == impl.CodeMemory && want.words > heap && len(got.Text) == 0 && got.At == 0 && got.Steps <= want.report.Steps
	if !full && !sameReport(got, want.report) {
		t.Fatalf("heap %d, fuel %d: %s, want %s for\n%s", heap, fuel, told(got), told(want.report), src)
	}
	tally.count(got)
	return got
}

func TestExecMeaningModel(t *testing.T) {
	var tally execTally
	for _, m := range meantSources() {
		checkMeaning(t, m.src, impl.MaxHeap, impl.MaxFuel, &tally)
	}
	for _, src := range runPrograms {
		checkMeaning(t, src, impl.MaxHeap, impl.MaxFuel, &tally)
	}
	tally.checkCodes(t, 3, runCodes...)
}

func TestExecMadeSources(t *testing.T) {
	t.Parallel()
	r := rand.New(rand.NewSource(81))
	var tally execTally
	for n := range 3000 {
		p := sourceMaker{r: r, odd: []int{0, 0, 5, 30}[n%4]}
		src := p.source()
		whole := checkMeaning(t, src, impl.MaxHeap, impl.MaxFuel, &tally)
		// Part of the way, and with less words.
		checkMeaning(t, src, r.Intn(150), r.Intn(whole.Steps+2), &tally)
	}
	tally.checkCodes(t, 40, runCodes...)
	if tally.codes[impl.CodeOK] < 2000 || tally.long < 1000 {
		t.Errorf("too few of a kind: %+v", tally)
	}
}

// definedFirst lays the definitions of a program ahead of its other forms: else
// most runs end at once.
func definedFirst(src string) string {
	forms := strings.Split(src, "\n")
	slices.SortStableFunc(forms, func(a, b string) int {
		return strings.Index(a+"(define", "(define") - strings.Index(b+"(define", "(define")
	})
	return strings.Join(forms, "\n")
}

func TestExecMadePrograms(t *testing.T) {
	t.Parallel()
	r := rand.New(rand.NewSource(82))
	var tally execTally
	for n := range 6000 {
		p := programMaker{r: r, odd: []int{0, 0, 1, 4}[n%4]}
		checkMeaning(t, definedFirst(p.program()), impl.MaxHeap, 5000, &tally)
	}
	tally.checkCodes(t, 100, impl.CodeOK, impl.CodeSyntax, impl.CodeUnbound, impl.CodeType, impl.CodeArity, impl.CodeUnset)
}

func TestExecAllSmallSources(t *testing.T) {
	t.Parallel()
	var tally execTally
	check := func(around ...string) func(trees []*tree) {
		return func(trees []*tree) {
			var parts []string
			for _, d := range trees {
				parts = append(parts, d.text())
			}
			checkMeaning(t, around[0]+strings.Join(parts, " ")+around[1], impl.MaxHeap, 400, &tally)
		}
	}
	for size := range 6 {
		eachForest(treesOf("1 x define begin or quote"), size, check("", ""))
		eachForest(treesOf("1 x set! or #f"), size, check("((lambda (x) ", ") 2)"))
		eachForest(treesOf("x y lambda and 5"), size, check("(define y 1) (letrec ((x (lambda (y) ", "))) (cons (x 2) y))"))
		eachForest(treesOf("x y lambda set! 5"), size, check("(letrec ((x (begin ", ")) (y 1)) (cons x y))"))
		eachForest(treesOf("x car cons set! if"), size, check("(define x '(1 2)) (define f (lambda () ", ")) (cons x (cons (f) x))"))
	}
	tally.checkCodes(t, 1000, impl.CodeOK, impl.CodeSyntax, impl.CodeUnbound, impl.CodeType)
	tally.checkCodes(t, 100, impl.CodeArity, impl.CodeUnset)
}

// execSources are sources that end in all ways, made by hand and drawn.
func execSources(r *rand.Rand, count int) []string {
	sources := slices.Clone(runPrograms)
	for _, m := range meantSources() {
		sources = append(sources, m.src)
	}
	for n := range count {
		p := sourceMaker{r: r, odd: []int{0, 5, 30}[n%3]}
		sources = append(sources, p.source())
	}
	return sources
}

// What promises 7 and 9 say of runs, as it is seen through Exec.
func TestExecHeaps(t *testing.T) {
	t.Parallel()
	r := rand.New(rand.NewSource(83))
	var tally execTally
	for _, src := range execSources(r, 300) {
		fuel := []int{impl.MaxFuel / 10, 1 + r.Intn(2000)}[r.Intn(2)]
		exec := func(heap int) impl.Report { return impl.Exec([]byte(src), heap, fuel) }
		whole := exec(impl.MaxHeap)
		least := sort.Search(impl.MaxHeap+1, func(heap int) bool { return exec(heap).Code != impl.CodeMemory })
		for _, heap := range []int{0, least - 7, least - 3, least - 2, least - 1, least, least + 1, least + 2, least + 5, least + r.Intn(50), r.Intn(least + 1), impl.MaxHeap} {
			if heap < 0 || heap > impl.MaxHeap {
				continue
			}
			got := exec(heap)
			if (got.Code == impl.CodeMemory) != (heap < least) || heap >= least && !sameReport(got, whole) || got.Steps > whole.Steps {
				t.Fatalf("heap %d, least %d, fuel %d: %s, want %s for\n%s", heap, least, fuel, told(got), told(whole), src)
			}
			if !slices.Contains(runCodes, got.Code) || len(got.Text) > 0 && got.Code != impl.CodeOK || got.At != 0 {
				t.Fatalf("heap %d, fuel %d: %s for\n%s", heap, fuel, told(got), src)
			}
			tally.count(got)
		}
	}
	tally.checkCodes(t, 20, runCodes...)
}

// changedBytes answers bytes with a few changes: some others, some more, some
// less, two the other way round, or a piece cut off.
func changedBytes(r *rand.Rand, b []byte, others string) []byte {
	b = slices.Clone(b)
	for range 1 + r.Intn(3) {
		if len(b) == 0 {
			return []byte{others[r.Intn(len(others))]}
		}
		at, other := r.Intn(len(b)), others[r.Intn(len(others))]
		switch r.Intn(6) {
		case 0:
			b[at] = other
		case 1:
			b[at] = byte(r.Intn(256))
		case 2:
			b = slices.Insert(b, at, other)
		case 3:
			b = slices.Delete(b, at, at+1)
		case 4:
			to := r.Intn(len(b))
			b[at], b[to] = b[to], b[at]
		case 5:
			b = b[:at]
		}
	}
	return b
}

func TestExecAnswersForAllBytes(t *testing.T) {
	t.Parallel()
	r := rand.New(rand.NewSource(84))
	var tally execTally
	sources := execSources(r, 100)
	for n := range 12000 {
		src := []byte(sources[r.Intn(len(sources))])
		if n%2 == 0 {
			src = changedBytes(r, src, "()'#tf1-ax; \n.")
		} else if at := bytes.IndexAny(src, "0123456789"); at >= 0 {
			// Another number in the place of one leaves most programs whole.
			digits := bytes.FieldsFunc(src[at:], func(c rune) bool { return c < '0' || c > '9' })
			digits[r.Intn(len(digits))][0] = "0123456789-xnf"[r.Intn(14)]
		}
		checkMeaning(t, string(src), r.Intn(300), r.Intn(300), &tally)
	}
	for range 5000 {
		src := make([]byte, r.Intn(r.Intn(60)+1))
		for i := range src {
			src[i] = byte(r.Intn(256))
		}
		checkMeaning(t, string(src), r.Intn(300), r.Intn(300), &tally)
	}
	tally.checkCodes(t, 500, impl.CodeOK, impl.CodeSyntax, impl.CodeUnbound)
	tally.checkCodes(t, 20, impl.CodeType, impl.CodeUnset, impl.CodeArity, impl.CodeMemory, impl.CodeFuel)
}
