package tests

import (
	"bytes"
	"encoding/binary"
	"math/rand"
	"testing"

	"loop.example/s01541/impl"
)

// modelImage is a second make of EncodeImage. It writes every module whose
// numbers have room, also one that is not well-formed.
func modelImage(m impl.Module) []byte {
	image := bytes.NewBufferString("SLA1")
	put := func(numbers ...any) {
		for _, n := range numbers {
			binary.Write(image, binary.LittleEndian, n)
		}
	}
	put(uint16(m.Globals), uint16(len(m.Consts)))
	for _, data := range m.Consts {
		put(uint16(len(data)))
		for _, d := range data {
			put(uint8(d.Kind))
			switch d.Kind {
			case impl.DatInt:
				put(int64(d.N))
			case impl.DatBool:
				put(uint8(d.N))
			case impl.DatSymbol:
				put(uint8(len(d.Text)), d.Text)
			case impl.DatList:
				put(uint16(d.Count))
			}
		}
	}
	put(uint16(len(m.Funcs)))
	for _, f := range m.Funcs {
		put(uint8(f.Params), uint8(len(f.Free)), f.Free, uint16(len(f.Code)))
		for _, i := range f.Code {
			put(uint8(i.Op), uint16(i.A), uint8(i.B))
		}
	}
	return summed(image.Bytes())
}

// imageModel reads numbers from an image, and 0 behind its end.
type imageModel struct {
	rest  []byte
	ended bool // more was asked for than is there
}

func (r *imageModel) next(size int) int {
	var room [8]byte
	got := copy(room[:size], r.rest)
	r.rest = r.rest[got:]
	r.ended = r.ended || got < size
	return int(binary.LittleEndian.Uint64(room[:]))
}

// each calls so often, but no more behind the end.
func (r *imageModel) each(count int, call func()) {
	for range count {
		if r.ended {
			return
		}
		call()
	}
}

func (r *imageModel) datum() impl.Datum {
	d := impl.Datum{Kind: r.next(1)}
	switch d.Kind {
	case impl.DatInt:
		d.N = r.next(8)
	case impl.DatBool:
		d.N = r.next(1)
	case impl.DatSymbol:
		r.each(r.next(1), func() { d.Text = append(d.Text, byte(r.next(1))) })
	case impl.DatList:
		d.Count = r.next(2)
	}
	return d
}

func (r *imageModel) function() impl.Func {
	f := impl.Func{Params: r.next(1)}
	r.each(r.next(1), func() { f.Free = append(f.Free, r.next(1) == 1) })
	r.each(r.next(2), func() { f.Code = append(f.Code, impl.Ins{Op: r.next(1), A: r.next(2), B: r.next(1)}) })
	return f
}

// modelModule is a second make of DecodeImage. It takes bytes for the module
// that they could be, and asks whether they are its image.
func modelModule(b []byte) (impl.Module, bool) {
	r := &imageModel{rest: b}
	r.next(4)
	m := impl.Module{Globals: r.next(2)}
	r.each(r.next(2), func() {
		var data []impl.Datum
		r.each(r.next(2), func() { data = append(data, r.datum()) })
		m.Consts = append(m.Consts, data)
	})
	r.each(r.next(2), func() { m.Funcs = append(m.Funcs, r.function()) })
	if !impl.ValidModule(m) || !bytes.Equal(modelImage(m), b) {
		return impl.Module{}, false
	}
	return m, true
}

// imageTally counts bytes that are images and such that are not.
type imageTally struct {
	taken   int
	corrupt int
}

// checkImageModel asks for what the second make says of some bytes.
func checkImageModel(t *testing.T, b []byte, count *imageTally) {
	t.Helper()
	want, taken := modelModule(b)
	if !taken {
		count.corrupt++
		checkCorrupt(t, "no image", b)
		return
	}
	count.taken++
	got, code := impl.DecodeImage(b)
	if code != impl.CodeOK || !sameModule(got, want) {
		t.Errorf("code %d and %s for %s", code, brief(got), brief(b))
	}
	if image := impl.EncodeImage(got); !bytes.Equal(image, b) {
		t.Errorf("image %s, was %s", brief(image), brief(b))
	}
}

// madeModule is a module of made code and made constants.
func madeModule(r *rand.Rand) impl.Module {
	m := randomModule(r)
	m.Globals += r.Intn(impl.MaxGlobals - 1)
	for range r.Intn(4) {
		m.Consts = append(m.Consts, randomTree(r, 3).flat())
	}
	return m
}

// smallModule is a made module with a short image.
func smallModule(r *rand.Rand) impl.Module {
	for {
		if m := madeModule(r); len(modelImage(m)) < 150 {
			return m
		}
	}
}

func TestImagesOfMadeModules(t *testing.T) {
	r := rand.New(rand.NewSource(11))
	for range 3000 {
		checkImage(t, "a made module", madeModule(r))
		if t.Failed() {
			return
		}
	}
}

func TestImagesWithOneByteChanged(t *testing.T) {
	// With a right checksum a change may come to the image of another module.
	r := rand.New(rand.NewSource(12))
	modules := []impl.Module{knownModule(), {Funcs: []impl.Func{ending(0)}}}
	for range 3 {
		modules = append(modules, smallModule(r))
	}
	var count imageTally
	for _, m := range modules {
		image := impl.EncodeImage(m)
		body := image[:len(image)-4]
		for at := range body {
			old := body[at]
			for c := range 256 {
				body[at] = byte(c)
				checkImageModel(t, summed(body), &count)
			}
			body[at] = old
		}
	}
	if count.taken < 5000 || count.corrupt < 50000 {
		t.Errorf("too few of a kind: %+v", count)
	}
}

func TestImagesWithSomeBytesChanged(t *testing.T) {
	r := rand.New(rand.NewSource(13))
	var count imageTally
	for range 20000 {
		image := impl.EncodeImage(madeModule(r))
		body := image[:len(image)-4]
		at, behind := r.Intn(len(body)), 0
		switch r.Intn(4) {
		case 0: // one byte less
			behind = at + 1
			body = append(body[:at:at], body[behind:]...)
		case 1: // one byte more
			body = append(append(body[:at:at], byte(r.Intn(4))), body[at:]...)
		case 2: // two bytes the other way round
			behind = r.Intn(len(body))
			body[at], body[behind] = body[behind], body[at]
		default: // a few small changes
			for range 1 + r.Intn(3) {
				body[r.Intn(len(body))] += byte(r.Intn(3) - 1)
			}
		}
		checkImageModel(t, summed(body), &count)
		if t.Failed() {
			return
		}
	}
	if count.taken < 1000 || count.corrupt < 5000 {
		t.Errorf("too few of a kind: %+v", count)
	}
}

func TestImagesOfAllShortRows(t *testing.T) {
	// What can stand behind the mark and the globals, in few pieces.
	pieces := [][]byte{{0}, {1}, {0, 0}, {1, 0}, {2, 0}, {impl.InsReturn, 0, 0, 0}}
	var count imageTally
	for size := range 8 {
		eachRow(pieces, size, func(row [][]byte) {
			body := append([]byte("SLA1\x02\x00"), bytes.Join(row, nil)...)
			checkImageModel(t, summed(body), &count)
		})
	}
	if count.taken < 20 || count.corrupt < 100000 {
		t.Errorf("too few of a kind: %+v", count)
	}
}

func TestImagesOfMadeBytes(t *testing.T) {
	r := rand.New(rand.NewSource(14))
	var count imageTally
	for range 20000 {
		body := []byte("SLA1")
		for range r.Intn(40) {
			body = append(body, byte(r.Intn(4)*r.Intn(4)*r.Intn(20)))
		}
		checkImageModel(t, summed(body), &count)
		checkImageModel(t, body, &count)
	}
}

// changedBits answers bytes with bits in a row changed, from a bit on, the
// lowest bit of a byte first.
func changedBits(b []byte, from int, bits uint64) []byte {
	changed := bytes.Clone(b)
	for ; bits != 0; bits >>= 1 {
		changed[from/8] ^= byte(bits&1) << (from % 8)
		from++
	}
	return changed
}

// checkBits asks that an image is not taken with so many bits in a row changed:
// all of them, the first and last alone, and some of those between.
func checkBits(t *testing.T, r *rand.Rand, image []byte, from, size int) {
	t.Helper()
	if from+size > 8*len(image) {
		return
	}
	ends := uint64(1) | 1<<(size-1)
	all := uint64(1)<<size - 1
	for _, bits := range []uint64{ends, all, ends | r.Uint64()&all, ends | r.Uint64()&all} {
		checkCorrupt(t, "bits in a row changed", changedBits(image, from, bits))
	}
}

func TestImagesWithBitsInARowChanged(t *testing.T) {
	r := rand.New(rand.NewSource(15))
	modules := []impl.Module{knownModule(), {Funcs: []impl.Func{ending(0)}}, withConsts(row(num(0))), smallModule(r)}
	for _, m := range modules {
		image := impl.EncodeImage(m)
		for from := range 8 * len(image) {
			for size := 1; size <= 32; size++ {
				checkBits(t, r, image, from, size)
			}
		}
		if t.Failed() {
			return
		}
	}
}

func TestGreatImagesWithBitsInARowChanged(t *testing.T) {
	r := rand.New(rand.NewSource(16))
	long := append(row(list(impl.MaxData-1)), make([]impl.Datum, impl.MaxData-1)...)
	for _, m := range []impl.Module{withConsts(long), mainOf(times(impl.MaxCode, insVoid)...)} {
		image := impl.EncodeImage(m)
		for range 100 {
			checkBits(t, r, image, r.Intn(8*len(image)), 1+r.Intn(32))
		}
		for size := 1; size <= 32; size++ {
			checkBits(t, r, image, 8*len(image)-32-size/2, size)
		}
	}
}
