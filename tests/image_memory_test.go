package tests

import (
	"bytes"
	"fmt"
	"reflect"
	"testing"

	"loop.example/s01541/impl"
)

// span is the memory that a list could reach, also behind its end.
type span struct {
	what string
	from uintptr
	to   uintptr
}

// spansOf answers the memory of all lists in a value.
func spansOf(what string, v reflect.Value) []span {
	var spans []span
	switch v.Kind() {
	case reflect.Slice:
		if size := uintptr(v.Cap()) * v.Type().Elem().Size(); size > 0 {
			spans = append(spans, span{what, v.Pointer(), v.Pointer() + size})
		}
		for i := range v.Len() {
			spans = append(spans, spansOf(fmt.Sprintf("%s[%d]", what, i), v.Index(i))...)
		}
	case reflect.Struct:
		for i := range v.NumField() {
			spans = append(spans, spansOf(what+"."+v.Type().Field(i).Name, v.Field(i))...)
		}
	}
	return spans
}

// checkApart asks that no two lists share memory.
func checkApart(t *testing.T, spans []span) {
	t.Helper()
	for i, a := range spans {
		for _, b := range spans[:i] {
			if a.from < b.to && b.from < a.to {
				t.Errorf("%s shares memory with %s", a.what, b.what)
			}
		}
	}
}

// imageModules have symbols of the same text, and lists of all kinds.
func imageModules() []impl.Module {
	texts := withConsts(row(sym("ab")), row(list(3), sym("ab"), sym("c"), sym("ab")), row(num(-5)), row(list(0)), row(truth(1)))
	return append(memoryModules(), texts, knownModule(), impl.Module{Funcs: []impl.Func{ending(0), ending(3, true), ending(3, true)}})
}

func TestEncodeImageLeavesItsArgument(t *testing.T) {
	for n, m := range append(imageModules(), impl.Module{}, moduleOf(nil)) {
		part, kept := roomy(m)
		impl.EncodeImage(part)
		if got := wholeOf(part); !reflect.DeepEqual(got, kept) {
			t.Errorf("module %d was changed to %s", n, brief(got))
		}
	}
	text := []byte("ab and more")
	m := withConsts(row(impl.Datum{Kind: impl.DatSymbol, Text: text[:2]}))
	spoil(impl.EncodeImage(m))
	if string(text) != "ab and more" {
		t.Errorf("the text was changed: %q", text)
	}
}

func TestEncodeImageAnswersNewMemory(t *testing.T) {
	for n, m := range imageModules() {
		given := copyModule(m)
		first, second := impl.EncodeImage(given), impl.EncodeImage(given)
		spans := spansOf("the module", reflect.ValueOf(given))
		spans = append(spans, spansOf("the image", reflect.ValueOf(first))...)
		checkApart(t, append(spans, spansOf("the next image", reflect.ValueOf(second))...))
		spoilModule(given)
		spoil(second)
		if !bytes.Equal(first, modelImage(m)) {
			t.Errorf("module %d: the image changed to %v", n, first)
		}
	}
}

func TestDecodeImageLeavesItsArgument(t *testing.T) {
	for n, m := range imageModules() {
		image := modelImage(m)
		for _, b := range [][]byte{image, image[:len(image)-1], image[:len(image)/2], summed(image[:len(image)-9])} {
			given := append(bytes.Clone(b), "behind"...)
			kept := bytes.Clone(given)
			impl.DecodeImage(given[:len(b)])
			impl.Crc32(given[:len(b)])
			if !bytes.Equal(given, kept) {
				t.Errorf("module %d: the bytes were changed to %v", n, given)
			}
		}
	}
}

func TestDecodeImageAnswersNewMemory(t *testing.T) {
	for n, m := range imageModules() {
		given := modelImage(m)
		first, _ := impl.DecodeImage(given)
		second, _ := impl.DecodeImage(given)
		spans := spansOf("the bytes", reflect.ValueOf(given))
		spans = append(spans, spansOf("the module", reflect.ValueOf(first))...)
		checkApart(t, append(spans, spansOf("the next module", reflect.ValueOf(second))...))
		spoil(given)
		spoilModule(second)
		if !sameModule(first, m) {
			t.Errorf("module %d: changed to %s", n, brief(first))
		}
	}
}
