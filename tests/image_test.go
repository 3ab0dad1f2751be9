package tests

import (
	"bytes"
	"encoding/binary"
	"hash/crc32"
	"math"
	"slices"
	"strings"
	"testing"

	"loop.example/s01541/impl"
)

// summed answers bytes with their checksum behind them.
func summed(body []byte) []byte {
	return binary.LittleEndian.AppendUint32(bytes.Clone(body), crc32.ChecksumIEEE(body))
}

func sameModule(a, b impl.Module) bool {
	sameFunc := func(f, g impl.Func) bool {
		return f.Params == g.Params && slices.Equal(f.Free, g.Free) && slices.Equal(f.Code, g.Code)
	}
	return a.Globals == b.Globals && slices.EqualFunc(a.Consts, b.Consts, sameData) && slices.EqualFunc(a.Funcs, b.Funcs, sameFunc)
}

// checkImage asks that a well-formed module has the image of the second make,
// and that this is read again.
func checkImage(t *testing.T, what string, m impl.Module) {
	t.Helper()
	if !impl.ValidModule(m) {
		t.Errorf("%s: not well-formed", what)
	}
	image := impl.EncodeImage(m)
	if want := modelImage(m); !bytes.Equal(image, want) {
		t.Errorf("%s: image %s, want %s", what, brief(image), brief(want))
	}
	got, code := impl.DecodeImage(image)
	if code != impl.CodeOK || !sameModule(got, m) {
		t.Errorf("%s: read again as %s with code %d, was %s", what, brief(got), code, brief(m))
	}
}

func checkCorrupt(t *testing.T, what string, b []byte) {
	t.Helper()
	m, code := impl.DecodeImage(b)
	if code != impl.CodeCorrupt || !sameModule(m, impl.Module{}) {
		t.Errorf("%s: code %d and %s for %s", what, code, brief(m), brief(b))
	}
}

// checkForged asks that a module that is not well-formed has no image, and that
// the bytes that would be its image, with a right checksum, are not taken.
func checkForged(t *testing.T, what string, m impl.Module) {
	t.Helper()
	if image := impl.EncodeImage(m); len(image) != 0 {
		t.Errorf("%s: image %s", what, brief(image))
	}
	checkCorrupt(t, what, modelImage(m))
}

// checkImageOr asks for an image of a module, or that it has none.
func checkImageOr(t *testing.T, what string, m impl.Module, formed bool) {
	t.Helper()
	if formed {
		checkImage(t, what, m)
	} else {
		checkForged(t, what, m)
	}
}

func TestCrc32(t *testing.T) {
	sums := map[string]uint32{"": 0, "123456789": 0xcbf43926, "a": 0xe8b7be43, "abc": 0x352441c2, "\x00": 0xd202ef8d,
		"\x00\x00\x00\x00": 0x2144df1c, "\xff": 0xff000000, "\xff\xff\xff\xff": 0xffffffff,
		"The quick brown fox jumps over the lazy dog": 0x414fa339}
	for text, want := range sums {
		if got := impl.Crc32([]byte(text)); got != want {
			t.Errorf("%q: %#x, want %#x", text, got, want)
		}
	}
	if got := impl.Crc32(nil); got != 0 {
		t.Errorf("nil: %#x", got)
	}
	var long []byte
	for c := range 1000 {
		if got, want := impl.Crc32([]byte{byte(c)}), crc32.ChecksumIEEE([]byte{byte(c)}); got != want {
			t.Errorf("byte %d: %#x, want %#x", byte(c), got, want)
		}
		long = append(long, byte(c*c>>3))
		if got, want := impl.Crc32(long), crc32.ChecksumIEEE(long); got != want {
			t.Fatalf("%d bytes: %#x, want %#x", len(long), got, want)
		}
	}
}

// knownModule is the module of knownBody.
func knownModule() impl.Module {
	return impl.Module{
		Consts:  [][]impl.Datum{row(num(-2)), row(list(3), sym("a-b"), truth(1), list(0)), row(truth(0)), row(num(513))},
		Globals: 200,
		Funcs: []impl.Func{
			function(0, nil, ins(impl.InsClosure, 1, 2), insJump(0)),
			function(20, []bool{true, false}, insReturn),
		},
	}
}

// knownBody is the image of knownModule but for its checksum.
func knownBody() []byte {
	return slices.Concat([]byte("SLA1"), []byte{200, 0, 4, 0},
		[]byte{1, 0, 0, 254, 255, 255, 255, 255, 255, 255, 255},
		[]byte{4, 0, 3, 3, 0, 2, 3, 'a', '-', 'b', 1, 1, 3, 0, 0},
		[]byte{1, 0, 1, 0},
		[]byte{1, 0, 0, 1, 2, 0, 0, 0, 0, 0, 0},
		[]byte{2, 0},
		[]byte{0, 0, 2, 0, 8, 1, 0, 2, 12, 0, 0, 0},
		[]byte{20, 2, 1, 0, 1, 0, 11, 0, 0, 0})
}

// changed answers the known image with other bytes from a place on, and a
// right checksum.
func changed(at int, to ...byte) []byte {
	body := knownBody()
	copy(body[at:], to)
	return summed(body)
}

func TestImageOfKnownModule(t *testing.T) {
	want := summed(knownBody())
	if got := impl.EncodeImage(knownModule()); !bytes.Equal(got, want) {
		t.Errorf("image\n%v, want\n%v", got, want)
	}
	checkImage(t, "the known module", knownModule())
	least := impl.Module{Funcs: []impl.Func{function(0, nil, insReturn)}}
	checkImage(t, "the least module", least)
	if got, want := impl.EncodeImage(least), summed([]byte("SLA1\x00\x00\x00\x00\x01\x00\x00\x00\x01\x00\x0b\x00\x00\x00")); !bytes.Equal(got, want) {
		t.Errorf("image of the least module %v, want %v", got, want)
	}
}

func TestImageOfCodeThatIsNotSafe(t *testing.T) {
	// An image asks that a module is well-formed; it need not be safe.
	for _, m := range []impl.Module{mainOf(insPop), mainOf(insUnbox, insVoid), mainOf(insLocal(9), insReturn)} {
		if _, code, _ := impl.Verify(m); code != impl.CodeUnsafe {
			t.Errorf("code %d", code)
		}
		checkImage(t, "not safe", m)
	}
}

func TestImageOfNothingWellFormed(t *testing.T) {
	// Numbers that would be cut to ones that a module may have.
	cut := map[string]func(m *impl.Module){
		"Globals beyond":     func(m *impl.Module) { m.Globals = 1<<16 + 3 },
		"Globals below":      func(m *impl.Module) { m.Globals = -1<<16 + 3 },
		"Params beyond":      func(m *impl.Module) { m.Funcs[1].Params = 1<<8 + 1 },
		"Params below":       func(m *impl.Module) { m.Funcs[1].Params = -1 << 8 },
		"Op beyond":          func(m *impl.Module) { m.Funcs[0].Code[1].Op = 1<<8 + impl.InsJump },
		"Op below":           func(m *impl.Module) { m.Funcs[0].Code[1].Op = -1<<8 + impl.InsJump },
		"A beyond":           func(m *impl.Module) { m.Funcs[0].Code[1].A = 1<<16 + 1 },
		"A below":            func(m *impl.Module) { m.Funcs[0].Code[1].A = -1 << 16 },
		"B beyond":           func(m *impl.Module) { m.Funcs[0].Code[0].B = 1<<8 + 2 },
		"B below":            func(m *impl.Module) { m.Funcs[0].Code[0].B = -1<<8 + 2 },
		"Kind beyond":        func(m *impl.Module) { m.Consts[0][0].Kind = 1 << 8 },
		"a bool beyond":      func(m *impl.Module) { m.Consts[2][0].N = 1<<8 + 1 },
		"Count beyond":       func(m *impl.Module) { m.Consts[1][0].Count = 1<<16 + 3 },
		"a list's N":         func(m *impl.Module) { m.Consts[1][0].N = 1 },
		"a symbol's N":       func(m *impl.Module) { m.Consts[1][1].N = 1 },
		"a number's Count":   func(m *impl.Module) { m.Consts[0][0].Count = 1 },
		"a number's Text":    func(m *impl.Module) { m.Consts[0][0].Text = []byte("a") },
		"a list's Text":      func(m *impl.Module) { m.Consts[1][0].Text = []byte("a") },
		"a Text of 256 more": func(m *impl.Module) { m.Consts[1][1].Text = []byte(strings.Repeat("a", 259)) },
		"Free of main, 256":  func(m *impl.Module) { m.Funcs[0].Free = make([]bool, 256) },
	}
	for what, change := range cut {
		m := knownModule()
		change(&m)
		if image := impl.EncodeImage(m); len(image) != 0 || impl.ValidModule(m) {
			t.Errorf("%s: image %s", what, brief(image))
		}
	}
	checkForged(t, "the zero module", impl.Module{})
	checkForged(t, "no function", impl.Module{Globals: 3, Consts: [][]impl.Datum{row(num(1))}})
}

func TestImageGlobals(t *testing.T) {
	for globals, formed := range map[int]bool{0: true, 1: true, impl.MaxGlobals: true, impl.MaxGlobals + 1: false, 255: false,
		256: false, 1000: false, math.MaxUint16: false} {
		checkImageOr(t, "globals", impl.Module{Globals: globals, Funcs: []impl.Func{ending(0)}}, formed)
	}
}

func TestImageCounts(t *testing.T) {
	consts := func(n int) impl.Module { return withConsts(slices.Repeat([][]impl.Datum{row(truth(1))}, n)...) }
	checkImage(t, "no constants", consts(0))
	checkImage(t, "MaxConsts constants", consts(impl.MaxConsts))
	checkForged(t, "one constant more", consts(impl.MaxConsts+1))
	long := func(data int) []impl.Datum { return append(row(list(data-1)), make([]impl.Datum, data-1)...) }
	checkImage(t, "a constant of MaxData data", withConsts(long(impl.MaxData)))
	checkForged(t, "a constant of one datum more", withConsts(long(impl.MaxData+1)))
	checkForged(t, "constants of too many data", withConsts(long(impl.MaxData), row(num(1))))
	wide := append(row(list(impl.MaxData-1)), slices.Repeat(row(sym(strings.Repeat("w", impl.MaxSymbol))), impl.MaxData-1)...)
	checkImage(t, "MaxData data with the longest symbols", withConsts(wide))

	funcs := func(n int) impl.Module { return impl.Module{Funcs: slices.Repeat([]impl.Func{ending(0)}, n)} }
	checkForged(t, "no functions", funcs(0))
	checkImage(t, "MaxFuncs functions", funcs(impl.MaxFuncs))
	checkForged(t, "one function more", funcs(impl.MaxFuncs+1))
	checkForged(t, "256 functions more", funcs(257))

	checkImage(t, "MaxCode instructions", mainOf(times(impl.MaxCode, insVoid)...))
	checkForged(t, "one instruction more", mainOf(times(impl.MaxCode+1, insVoid)...))
	checkForged(t, "one instruction more in two functions", moduleOf(times(impl.MaxCode-4, insVoid), function(0, nil, times(5, insPop)...)))
	checkForged(t, "no instruction", mainOf())
	checkForged(t, "no instruction in another function", moduleOf(times(1, insVoid), function(0, nil)))
	checkForged(t, "the most instructions that can be written", mainOf(times(math.MaxUint16, insVoid)...))
}

func TestImageFunctions(t *testing.T) {
	other := func(f impl.Func) impl.Module { return moduleOf([]impl.Ins{insVoid, insReturn}, f, ending(1, true)) }
	for params, formed := range map[int]bool{0: true, 1: true, impl.MaxParams: true, impl.MaxParams + 1: false, 255: false} {
		checkImageOr(t, "Params", other(ending(params)), formed)
	}
	for free, formed := range map[int]bool{0: true, 1: true, impl.MaxFree: true, impl.MaxFree + 1: false, 255: false} {
		checkImageOr(t, "Free of no boxes", other(ending(0, make([]bool, free)...)), formed)
		checkImageOr(t, "Free of boxes", other(ending(2, slices.Repeat([]bool{true}, free)...)), formed)
		checkImageOr(t, "Free of both", other(ending(2, slices.Repeat([]bool{true, false}, free)[:free]...)), formed)
	}
	checkForged(t, "a main function with a parameter", impl.Module{Funcs: []impl.Func{ending(1)}})
	checkForged(t, "a main function with a captured value", impl.Module{Funcs: []impl.Func{ending(0, false)}})
	checkForged(t, "a main function with a captured box", impl.Module{Funcs: []impl.Func{ending(0, true)}})
}

func TestImageInstructions(t *testing.T) {
	for op := range 256 {
		checkImageOr(t, "Op", operandModule(ins(op)), op < 18 && op != impl.InsClosure)
		checkImageOr(t, "Op with A and B", operandModule(ins(op, 3, 3)), op == impl.InsClosure)
		checkForged(t, "Op with B", operandModule(ins(op, 0, 1)))
		checkForged(t, "Op with the greatest A", operandModule(ins(op, math.MaxUint16)))
		checkForged(t, "Op with the greatest B", operandModule(ins(op, 0, math.MaxUint8)))
	}
	long := times(impl.MaxCode, insVoid)
	for _, to := range []int{0, 255, 256, 257, 4095, impl.MaxCode - 1} {
		long[7] = insJump(to)
		checkImage(t, "a jump far away", mainOf(long...))
	}
	for _, to := range []int{impl.MaxCode, math.MaxUint16} {
		long[7] = insJump(to)
		checkForged(t, "a jump too far", mainOf(long...))
	}
	wide := withConsts(slices.Repeat([][]impl.Datum{row(num(1))}, impl.MaxConsts)...)
	wide.Funcs[0].Code = []impl.Ins{ins(impl.InsConst, impl.MaxConsts-1), insReturn}
	checkImage(t, "the last constant", wide)
	full := moduleOf(append(times(impl.MaxFree, insVoid), ins(impl.InsClosure, 1, impl.MaxFree)), ending(0, make([]bool, impl.MaxFree)...))
	checkImage(t, "the greatest B", full)
	full.Funcs[0].Code[impl.MaxFree].B--
	checkForged(t, "a B that is not the number of Free", full)
}

func TestImageNumbers(t *testing.T) {
	for _, n := range []int{0, 1, -1, 127, 128, 255, 256, -128, -129, -256, 1 << 31, 1 << 32, -1 << 31, -1<<32 - 1,
		0x0102030405060708, -0x0102030405060708, impl.MaxInt, impl.MaxInt - 1, -impl.MaxInt, -impl.MaxInt - 1} {
		checkImage(t, "a small int", withConsts(row(num(n))))
	}
	for _, n := range []int{impl.MaxInt + 1, -impl.MaxInt - 2, 1 << 62, -1 << 62, math.MaxInt, math.MinInt, math.MinInt + 1} {
		checkForged(t, "no small int", withConsts(row(num(n))))
		checkForged(t, "no small int in a list", withConsts(row(num(1)), row(list(2), num(1), num(n))))
	}
	// The number -2 of the known image, from its place 11 on.
	checkCorrupt(t, "2^63", changed(11, 0, 0, 0, 0, 0, 0, 0, 128))
	checkCorrupt(t, "2^61", changed(11, 0, 0, 0, 0, 0, 0, 0, 32))
	checkCorrupt(t, "-2^61-1", changed(11, 255, 255, 255, 255, 255, 255, 255, 223))
	for highest := range 256 {
		image := changed(18, byte(highest))
		if highest >= 32 && highest < 224 {
			checkCorrupt(t, "a highest byte of no small int", image)
			continue
		}
		want := knownModule()
		want.Consts[0][0].N = int(int8(highest))<<56 + 1<<56 - 2
		if m, code := impl.DecodeImage(image); code != impl.CodeOK || !sameModule(m, want) {
			t.Errorf("highest byte %d: code %d, %s", highest, code, brief(m))
		}
	}
}

func TestImageBools(t *testing.T) {
	checkImage(t, "both bools", withConsts(row(truth(0)), row(truth(1)), row(list(2), truth(1), truth(0))))
	for n := 2; n < 256; n++ {
		checkForged(t, "no bool", withConsts(row(truth(n))))
		checkForged(t, "no bool in a list", withConsts(row(list(1), truth(n)), row(num(1))))
		// A bool of Free of the known image.
		checkCorrupt(t, "no bool of Free", changed(len(knownBody())-8, byte(n)))
		checkCorrupt(t, "no bool of Free", changed(len(knownBody())-7, byte(n)))
	}
	for _, free := range [][]bool{{false, false}, {true, false}, {false, true}, {true, true}} {
		m := knownModule()
		m.Funcs[1].Free = free
		checkImage(t, "both bools of Free", m)
	}
}

func TestImageSymbols(t *testing.T) {
	checkImage(t, "a symbol of one byte", withConsts(row(sym("a"))))
	checkForged(t, "a symbol of no bytes", withConsts(row(sym(""))))
	for size := 1; size < 256; size++ {
		checkImageOr(t, "a long symbol", withConsts(row(sym(strings.Repeat("s", size)))), size <= impl.MaxSymbol)
	}
	for c := range 256 {
		b := string([]byte{byte(c)})
		digit := '0' <= c && c <= '9'
		checkImageOr(t, "a symbol of the byte "+b, withConsts(row(sym(b))), isMark(b) && !digit)
		checkImageOr(t, "a symbol with the byte "+b, withConsts(row(sym("a"+b+"c"))), isMark(b))
		checkImageOr(t, "a symbol of - and the byte "+b, withConsts(row(sym("-"+b))), isMark(b) && !digit)
	}
	checkForged(t, "a text that is a number", withConsts(row(sym("-12"))))
	// The symbol of the known image has the number of its bytes at place 25.
	for size := range 256 {
		if size != 3 {
			checkCorrupt(t, "a wrong number of bytes", changed(25, byte(size)))
		}
	}
}

func TestImageLists(t *testing.T) {
	checkImage(t, "the empty list", withConsts(row(list(0))))
	checkImage(t, "lists of lists", withConsts(row(list(3), list(0), list(2), num(1), list(1), sym("a"), list(0)), row(list(1), list(0))))
	for _, count := range []int{1, 255, 256, 257, 2048} {
		checkImage(t, "a long list", withConsts(append(row(list(count)), make([]impl.Datum, count)...)))
		checkForged(t, "an element too few", withConsts(append(row(list(count)), make([]impl.Datum, count-1)...)))
		checkForged(t, "an element too many", withConsts(append(row(list(count)), make([]impl.Datum, count+1)...)))
	}
	checkForged(t, "the greatest Count that can be written", withConsts(row(list(math.MaxUint16))))
	checkForged(t, "the greatest Count of a list within", withConsts(row(list(2), num(1), list(math.MaxUint16))))
	checkForged(t, "an element too few within", withConsts(row(list(2), list(2), num(1), num(2))))
	checkForged(t, "an element of the next constant", withConsts(row(list(2), num(1)), row(num(2))))
	checkImage(t, "MaxDeep lists", withConsts(nested(impl.MaxDeep)))
	checkForged(t, "one list deeper", withConsts(nested(impl.MaxDeep+1)))
}

func TestImageKindsAndSizesOfConstants(t *testing.T) {
	for kind := 4; kind < 256; kind++ {
		checkForged(t, "no kind", withConsts(row(impl.Datum{Kind: kind})))
		// Place 10 has the kind of the first constant of the known image.
		checkCorrupt(t, "no kind", changed(10, byte(kind)))
	}
	checkForged(t, "no data", withConsts(row()))
	checkForged(t, "no data behind a good constant", withConsts(row(num(1)), row()))
	checkForged(t, "two data", withConsts(row(num(1), num(2))))
	checkForged(t, "two data with room for both", withConsts(row(list(0), list(0))))
	// The number of data at place 8, that of the constant behind it at 19.
	for _, at := range []int{8, 19} {
		for count := range 1 << 16 {
			if count != int(knownBody()[at]) {
				checkCorrupt(t, "a wrong number of data", changed(at, byte(count), byte(count>>8)))
			}
		}
	}
}

func TestImageMark(t *testing.T) {
	for at := range 4 {
		for c := range 256 {
			if byte(c) != knownBody()[at] {
				checkCorrupt(t, "another mark", changed(at, byte(c)))
			}
		}
	}
	for _, mark := range []string{"SLA2", "sla1", "1ALS", "\x00\x00\x00\x00", "SLA\x00"} {
		checkCorrupt(t, "another mark", changed(0, []byte(mark)...))
	}
	checkCorrupt(t, "no mark", summed(knownBody()[4:]))
	checkCorrupt(t, "two marks", summed(append([]byte("SLA1"), knownBody()...)))
}

func TestImageEnds(t *testing.T) {
	body := knownBody()
	image := summed(body)
	for size := range image {
		checkCorrupt(t, "ended early", image[:size])
	}
	for size := range body {
		checkCorrupt(t, "ended early with a right checksum", summed(body[:size]))
		checkCorrupt(t, "ended early with the checksum of all", append(bytes.Clone(body[:size]), image[len(body):]...))
		checkCorrupt(t, "begun late", image[size+1:])
	}
	for c := range 256 {
		more := append(bytes.Clone(body), byte(c))
		checkCorrupt(t, "a byte more ahead of the checksum", summed(more))
		checkCorrupt(t, "a byte more ahead of the checksum of the others", append(more, image[len(body):]...))
		checkCorrupt(t, "a byte more behind the checksum", append(bytes.Clone(image), byte(c)))
		checkCorrupt(t, "a byte more ahead of all", append([]byte{byte(c)}, image...))
	}
	checkCorrupt(t, "the image twice", append(bytes.Clone(image), image...))
	checkCorrupt(t, "two checksums", append(bytes.Clone(image), image[len(body):]...))
	checkCorrupt(t, "a checksum of all", summed(image))
}

func TestImageFewBytes(t *testing.T) {
	checkCorrupt(t, "nil", nil)
	checkCorrupt(t, "no bytes", []byte{})
	for size := 1; size < 30; size++ {
		checkCorrupt(t, "zeros", make([]byte, size))
		checkCorrupt(t, "all bits", bytes.Repeat([]byte{255}, size))
		checkCorrupt(t, "zeros with a right checksum", summed(make([]byte, size)))
	}
	checkCorrupt(t, "the checksum of nothing", summed(nil))
	checkCorrupt(t, "the mark alone", []byte("SLA1"))
	checkCorrupt(t, "the mark and its checksum", summed([]byte("SLA1")))
	checkCorrupt(t, "a text", []byte("(define x 1)"))
	checkCorrupt(t, "the greatest numbers", summed(append([]byte("SLA1"), bytes.Repeat([]byte{255}, 5000)...)))
	many := append([]byte("SLA1\x00\x00\xff\xff"), bytes.Repeat([]byte{0xff, 0xff, 3, 0}, 100000)...)
	checkCorrupt(t, "far more than a module has", summed(many))
}

func TestImageSum(t *testing.T) {
	image := summed(knownBody())
	for at := len(image) - 4; at < len(image); at++ {
		for c := range 256 {
			wrong := bytes.Clone(image)
			wrong[at] = byte(c)
			if !bytes.Equal(wrong, image) {
				checkCorrupt(t, "a wrong checksum", wrong)
			}
		}
	}
	body := knownBody()
	sum := crc32.ChecksumIEEE(body)
	checkCorrupt(t, "the checksum with its highest byte first", binary.BigEndian.AppendUint32(bytes.Clone(body), sum))
	checkCorrupt(t, "the checksum with all bits changed", binary.LittleEndian.AppendUint32(bytes.Clone(body), ^sum))
	checkCorrupt(t, "the checksum of all but the mark", binary.LittleEndian.AppendUint32(bytes.Clone(body), crc32.ChecksumIEEE(body[4:])))
	checkCorrupt(t, "no checksum", body)
	checkCorrupt(t, "the checksum 0", append(bytes.Clone(body), 0, 0, 0, 0))
}
