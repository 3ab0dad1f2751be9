package tests

import (
	"bytes"
	"math"
	"math/rand"
	"testing"

	"loop.example/s01541/impl"
)

// imageOf answers the image of a source, or nothing if it comes to no module.
func imageOf(src string) []byte {
	data, code, _ := impl.Read([]byte(src))
	if code != impl.CodeOK {
		return nil
	}
	m, code := impl.Compile(data)
	if code != impl.CodeOK {
		return nil
	}
	return impl.EncodeImage(m)
}

// modelBoot is Boot by way of the second makes.
func modelBoot(image []byte, heap, fuel int) impl.Report {
	if heap < 0 || heap > 20000 || fuel < 0 || fuel > 100000 {
		return impl.Report{Code: impl.CodeBad}
	}
	m, ok := modelModule(image)
	if !ok {
		return impl.Report{Code: impl.CodeCorrupt}
	}
	if _, code, _ := modelVerify(m); code != impl.CodeOK {
		return impl.Report{Code: impl.CodeUnsafe}
	}
	o := modelOutcome(m, heap, fuel, nil)
	return impl.Report{Code: o.Code, Text: o.Text, Steps: o.Steps}
}

func checkBootModel(t *testing.T, image []byte, heap, fuel int, tally *execTally) {
	t.Helper()
	got, want := impl.Boot(image, heap, fuel), modelBoot(image, heap, fuel)
	if !sameReport(got, want) {
		t.Fatalf("heap %d, fuel %d: %s, want %s for %v", heap, fuel, told(got), told(want), image)
	}
	tally.count(got)
}

func TestBootBounds(t *testing.T) {
	good := imageOf("(cons 1 2)")
	unsafe := impl.EncodeImage(mainOf(insReturn))
	for _, image := range [][]byte{nil, good, unsafe, good[1:], append(bytes.Clone(good), 0), []byte("SLA1")} {
		for _, size := range []int{-1, math.MinInt, math.MaxInt} {
			checkReport(t, "heap", impl.Boot(image, size, 100), impl.Report{Code: impl.CodeBad})
			checkReport(t, "fuel", impl.Boot(image, 100, size), impl.Report{Code: impl.CodeBad})
		}
		checkReport(t, "heap", impl.Boot(image, impl.MaxHeap+1, 0), impl.Report{Code: impl.CodeBad})
		checkReport(t, "fuel", impl.Boot(image, 0, impl.MaxFuel+1), impl.Report{Code: impl.CodeBad})
		checkReport(t, "both", impl.Boot(image, -1, -1), impl.Report{Code: impl.CodeBad})
	}
	checkReport(t, "nothing", impl.Boot(good, 0, 0), impl.Report{Code: impl.CodeFuel})
	checkReport(t, "no heap", impl.Boot(good, 0, impl.MaxFuel), impl.Report{Code: impl.CodeMemory, Steps: 3})
	checkReport(t, "no fuel", impl.Boot(good, impl.MaxHeap, 0), impl.Report{Code: impl.CodeFuel})
	checkReport(t, "the limits", impl.Boot(good, impl.MaxHeap, impl.MaxFuel), impl.Report{Text: []byte("(1 . 2)"), Steps: 4})
}

func TestBootCorrupt(t *testing.T) {
	for _, src := range []string{"", "(cons 1 '(ab #t))", "(define f (lambda (x) (let ((y x)) (set! y 5) (lambda () y)))) (f 1)"} {
		image := imageOf(src)
		corrupt := impl.Report{Code: impl.CodeCorrupt}
		for _, heap := range []int{0, impl.MaxHeap} {
			for _, fuel := range []int{0, impl.MaxFuel} {
				for end := range image {
					checkReport(t, "cut off behind", impl.Boot(image[:end], heap, fuel), corrupt)
					checkReport(t, "cut off ahead", impl.Boot(image[end+1:], heap, fuel), corrupt)
				}
				checkReport(t, "one byte more", impl.Boot(append(bytes.Clone(image), 0), heap, fuel), corrupt)
				checkReport(t, "one byte more ahead", impl.Boot(append([]byte{0}, image...), heap, fuel), corrupt)
				checkReport(t, "twice", impl.Boot(append(bytes.Clone(image), image...), heap, fuel), corrupt)
			}
		}
		// The checksum is held against all bytes, its own among them.
		for at := range image {
			for bit := range 8 {
				checkReport(t, "a bit changed", impl.Boot(changedBits(image, 8*at+bit, 1), 100, 100), corrupt)
			}
		}
		if got := impl.Boot(image, 100, 100); got.Code != impl.CodeOK {
			t.Errorf("%s: %s", src, told(got))
		}
	}
	for _, b := range [][]byte{nil, {}, {0}, []byte("SLA1"), make([]byte, 18), []byte("(cons 1 2)"), make([]byte, 70000)} {
		checkReport(t, "no image", impl.Boot(b, 100, 100), impl.Report{Code: impl.CodeCorrupt})
		checkReport(t, "a checksum alone", impl.Boot(summed(b), 100, 100), impl.Report{Code: impl.CodeCorrupt})
	}
}

func TestBootUnsafe(t *testing.T) {
	for n, m := range []impl.Module{
		mainOf(insReturn), mainOf(insVoid), mainOf(insPop, insVoid, insReturn), mainOf(insLocal(0), insReturn), mainOf(ins(impl.InsBox, 1), insReturn), mainOf(insVoid, ins(impl.InsUnbox), insReturn),
		moduleOf([]impl.Ins{insVoid, insReturn}, function(0, nil, insReturn)),
		moduleOf([]impl.Ins{insVoid, ins(impl.InsClosure, 1, 1), insReturn}, function(0, []bool{true}, insVoid, insReturn)),
	} {
		image := impl.EncodeImage(m)
		if len(image) == 0 {
			t.Fatalf("module %d has no image", n)
		}
		for _, heap := range []int{0, 100, impl.MaxHeap} {
			for _, fuel := range []int{0, 1, impl.MaxFuel} {
				checkReport(t, "not safe", impl.Boot(image, heap, fuel), impl.Report{Code: impl.CodeUnsafe})
			}
		}
		image[len(image)-1]++
		checkReport(t, "not safe, with a wrong checksum", impl.Boot(image, 100, 100), impl.Report{Code: impl.CodeCorrupt})
	}
	// What no compiler makes is run as well, if it is safe.
	loop := impl.EncodeImage(mainOf(insJump(0)))
	checkReport(t, "a loop", impl.Boot(loop, 100, 77), impl.Report{Code: impl.CodeFuel, Steps: 77})
	spare := impl.EncodeImage(mainOf(insVoid, insVoid, insReturn, insPop))
	checkReport(t, "a slot to spare", impl.Boot(spare, 100, 77), impl.Report{Text: []byte("#void"), Steps: 3})
}

// Promise 13.
func TestBootIsExec(t *testing.T) {
	t.Parallel()
	r := rand.New(rand.NewSource(91))
	var tally execTally
	for _, src := range execSources(r, 300) {
		image := imageOf(src)
		check := func(heap, fuel int) impl.Report {
			exec, boot := impl.Exec([]byte(src), heap, fuel), impl.Boot(image, heap, fuel)
			if !sameReport(exec, boot) {
				t.Fatalf("heap %d, fuel %d: Exec %s, Boot %s for\n%s", heap, fuel, told(exec), told(boot), src)
			}
			tally.count(exec)
			return exec
		}
		whole := check(impl.MaxHeap, impl.MaxFuel)
		for n := range 10 {
			check(n+r.Intn(n+1), r.Intn(whole.Steps+2))
			check(r.Intn(500), n)
		}
		for _, fuel := range []int{whole.Steps - 1, whole.Steps, whole.Steps + 1, impl.MaxFuel} {
			if 0 <= fuel && fuel <= impl.MaxFuel {
				check(impl.MaxHeap, fuel)
				check(r.Intn(100), fuel)
				check(0, fuel)
			}
		}
		for _, wrong := range []int{-1, impl.MaxHeap + 1} {
			check(wrong, 5)
		}
		for _, wrong := range []int{-1, impl.MaxFuel + 1} {
			check(5, wrong)
		}
	}
	tally.checkCodes(t, 30, append(runCodes, impl.CodeBad)...)
}

func TestBootMadeModules(t *testing.T) {
	t.Parallel()
	r := rand.New(rand.NewSource(92))
	var tally execTally
	for n := range 1500 {
		m := runModule(r, []int{0, 2, 10, 40}[n%4])
		if n%3 == 0 {
			m = madeModule(r)
		}
		image := impl.EncodeImage(m)
		checkBootModel(t, image, impl.MaxHeap, 2000, &tally)
		for range 4 {
			checkBootModel(t, image, r.Intn(100), r.Intn(500), &tally)
		}
	}
	tally.checkCodes(t, 50, impl.CodeOK, impl.CodeUnsafe, impl.CodeType, impl.CodeArity, impl.CodeMemory, impl.CodeFuel)
}

func TestBootAnswersForAllBytes(t *testing.T) {
	t.Parallel()
	r := rand.New(rand.NewSource(93))
	var tally execTally
	var images [][]byte
	for _, src := range execSources(r, 50) {
		if image := imageOf(src); len(image) < 600 {
			images = append(images, image)
		}
	}
	const small = "\x00\x01\x02\x03\x0a\x0b\x0e\x11"
	for n := range 20000 {
		image := images[r.Intn(len(images))]
		body, sum := bytes.Clone(image[:len(image)-4]), image[len(image)-4:]
		switch n % 4 {
		case 0:
			checkBootModel(t, append(changedBytes(r, body, small), sum...), r.Intn(300), r.Intn(300), &tally)
		case 1:
			checkBootModel(t, summed(changedBytes(r, body, small)), r.Intn(300), r.Intn(300), &tally)
		default:
			// With a right checksum this is often the image of another module.
			body[r.Intn(len(body))] = small[r.Intn(len(small))]
			checkBootModel(t, summed(body), r.Intn(300), r.Intn(300), &tally)
		}
	}
	tally.checkCodes(t, 300, impl.CodeCorrupt, impl.CodeUnsafe, impl.CodeOK)
	tally.checkCodes(t, 30, impl.CodeType, impl.CodeUnset, impl.CodeMemory, impl.CodeFuel)
}
