package tests

import (
	"bytes"
	"testing"

	"loop.example/s01541/impl"
)

// spoil overwrites all that a list of bytes could reach, also behind its end.
func spoil(b []byte) {
	b = b[:cap(b)]
	for i := range b {
		b[i] = '!'
	}
}

func TestReadLeavesItsArgument(t *testing.T) {
	for _, src := range []string{"(ab '(cd) -1 #t) ef", "(a ')", "(ab", "a#"} {
		given := []byte(src + "behind")
		kept := bytes.Clone(given)
		impl.Read(given[:len(src)])
		if !bytes.Equal(given, kept) {
			t.Errorf("Read(%q) wrote %q into its argument", src, given)
		}
	}
}

func TestReadAnswersNewMemory(t *testing.T) {
	src := []byte("(ab 'cd) 'ab ef")
	want, _, _ := impl.Read(src)
	data, _, _ := impl.Read(src)
	spoil(src)
	if !sameData(data, want) || string(data[1].Text) != "ab" {
		t.Fatalf("the answer changed with the argument: %v", data)
	}
	for i := range data {
		if data[i].Kind != impl.DatSymbol {
			continue
		}
		kept := bytes.Clone(data[i].Text)
		spoil(data[i].Text)
		data[i].Text = kept
		if !sameData(data, want) {
			t.Fatalf("the text of datum %d shares memory with another: %v", i, data)
		}
	}
	again, _, _ := impl.Read([]byte("(ab 'cd) 'ab ef"))
	if !sameData(again, want) {
		t.Errorf("a later answer shares memory with an earlier one: %v", again)
	}
}

func TestWriteDataLeavesItsArgument(t *testing.T) {
	text := []byte("abbehind")
	data := row(list(2), impl.Datum{Kind: impl.DatSymbol, Text: text[:2]}, num(5), truth(1))
	want := row(list(2), sym("ab"), num(5), truth(1))
	out := impl.WriteData(data[:3])
	valid := impl.ValidData(data[:3])
	if !valid || string(out) != "(ab 5)\n" {
		t.Errorf("%v: %q", valid, out)
	}
	spoil(out)
	if !sameData(data, want) || string(text) != "abbehind" {
		t.Errorf("the argument was changed: %v, %q", data, text)
	}
	one := row(impl.Datum{Kind: impl.DatSymbol, Text: text[:2]})
	spoil(impl.WriteData(one))
	if string(text) != "abbehind" {
		t.Errorf("the answer shares memory with the argument: %q", text)
	}
	if again := impl.WriteData(data); string(again) != "(ab 5)\n#t\n" {
		t.Errorf("a later answer: %q", again)
	}
}
