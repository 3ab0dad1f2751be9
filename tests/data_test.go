package tests

import (
	"bytes"
	"strings"
	"testing"

	"loop.example/s01541/impl"
)

const (
	greatest = "2305843009213693951"
	least    = "-2305843009213693952"
	above    = "2305843009213693952"
	below    = "-2305843009213693953"
)

func num(n int) impl.Datum      { return impl.Datum{Kind: impl.DatInt, N: n} }
func truth(n int) impl.Datum    { return impl.Datum{Kind: impl.DatBool, N: n} }
func sym(s string) impl.Datum   { return impl.Datum{Kind: impl.DatSymbol, Text: []byte(s)} }
func list(count int) impl.Datum { return impl.Datum{Kind: impl.DatList, Count: count} }

func row(data ...impl.Datum) []impl.Datum { return data }

func sameData(a, b []impl.Datum) bool {
	if len(a) != len(b) {
		return false
	}
	for i := range a {
		x, y := a[i], b[i]
		if x.Kind != y.Kind || x.N != y.N || x.Count != y.Count || !bytes.Equal(x.Text, y.Text) {
			return false
		}
	}
	return true
}

// nested answers so many lists within each other.
func nested(deep int) []impl.Datum {
	data := make([]impl.Datum, deep)
	for i := range data {
		data[i] = list(1)
	}
	data[deep-1].Count = 0
	return data
}

func checkRead(t *testing.T, src string, want []impl.Datum) {
	t.Helper()
	data, code, at := impl.Read([]byte(src))
	if code != impl.CodeOK || at != 0 || !sameData(data, want) {
		t.Errorf("Read(%.60q): %.200v, code %d at %d", src, data, code, at)
	}
	if !impl.ValidData(data) {
		t.Errorf("Read(%.60q): the data are not valid", src)
	}
}

func checkFault(t *testing.T, src string, wantCode, wantAt int) {
	t.Helper()
	data, code, at := impl.Read([]byte(src))
	if code != wantCode || at != wantAt || len(data) != 0 {
		t.Errorf("Read(%.60q): %d data, code %d at %d, want code %d at %d", src, len(data), code, at, wantCode, wantAt)
	}
}

// checkTrip asks that valid data are written as text and read again.
func checkTrip(t *testing.T, data []impl.Datum, text string) {
	t.Helper()
	if !impl.ValidData(data) {
		t.Errorf("%.200v: not valid", data)
	}
	if got := impl.WriteData(data); string(got) != text {
		t.Errorf("%.200v: written as %.200q, want %.200q", data, got, text)
	}
	if len(text) <= impl.MaxSource {
		checkRead(t, text, data)
	} else {
		checkFault(t, text, impl.CodeLimit, impl.MaxSource)
	}
}

func checkNotValid(t *testing.T, what string, data []impl.Datum) {
	t.Helper()
	if impl.ValidData(data) {
		t.Errorf("%s: valid", what)
	}
	if text := impl.WriteData(data); len(text) != 0 {
		t.Errorf("%s: written as %.60q", what, text)
	}
}

func TestConstantsOfData(t *testing.T) {
	codes := []int{impl.CodeOK, impl.CodeBad, impl.CodeSyntax, impl.CodeUnbound, impl.CodeLimit, impl.CodeCorrupt,
		impl.CodeUnsafe, impl.CodeType, impl.CodeArity, impl.CodeIndex, impl.CodeZero, impl.CodeOverflow, impl.CodeUnset,
		impl.CodeMemory, impl.CodeFuel}
	for i, code := range codes {
		if code != i {
			t.Errorf("code %d is %d", i, code)
		}
	}
	got := [9]int{impl.DatInt, impl.DatBool, impl.DatSymbol, impl.DatList, impl.MaxSource, impl.MaxData, impl.MaxDeep,
		impl.MaxSymbol, impl.MaxInt}
	if want := [9]int{0, 1, 2, 3, 4000, 3000, 100, 100, 1<<61 - 1}; got != want {
		t.Errorf("constants %v, want %v", got, want)
	}
}

func TestReadOrdinary(t *testing.T) {
	checkRead(t, "", nil)
	checkRead(t, " \t\r\n", nil)
	checkRead(t, "5", row(num(5)))
	checkRead(t, "(define x 12)", row(list(3), sym("define"), sym("x"), num(12)))
	checkRead(t, "(a (b 1) () #t)c", row(list(4), sym("a"), list(2), sym("b"), num(1), list(0), truth(1), sym("c")))
	checkRead(t, "1\t2\r3\n4 5", row(num(1), num(2), num(3), num(4), num(5)))
	checkRead(t, "()()", row(list(0), list(0)))
	checkRead(t, "(a)b(c)", row(list(1), sym("a"), sym("b"), list(1), sym("c")))
}

func TestReadNumbersAndSigns(t *testing.T) {
	checkRead(t, "0 -0 007 -007", row(num(0), num(0), num(7), num(-7)))
	checkRead(t, "- + -- ++ -+", row(sym("-"), sym("+"), sym("--"), sym("++"), sym("-+")))
	checkRead(t, "-1 +1 --1 -1- -1a -a -a1", row(num(-1), sym("+1"), sym("--1"), sym("-1-"), sym("-1a"), sym("-a"), sym("-a1")))
	checkRead(t, "(- 1)(-1)", row(list(2), sym("-"), num(1), list(1), num(-1)))
	checkRead(t, greatest, row(num(impl.MaxInt)))
	checkRead(t, least, row(num(-impl.MaxInt-1)))
	// What bounds the bytes of a symbol does not bound those of a number.
	checkRead(t, strings.Repeat("0", 3999)+"3", row(num(3)))
	checkRead(t, "-"+strings.Repeat("0", 3980)+greatest, row(num(-impl.MaxInt)))
	for _, src := range []string{above, below, "9223372036854775807", "9223372036854775808", "-9223372036854775808",
		"-9223372036854775809", "18446744073709551617", strings.Repeat("9", 4000), "-" + strings.Repeat("9", 3999)} {
		checkFault(t, src, impl.CodeLimit, 0)
	}
	checkFault(t, "(a "+above, impl.CodeLimit, 3)
	for _, src := range []string{"1a", "1-", "0+", "12-3", "1" + strings.Repeat("a", 100)} {
		checkFault(t, src, impl.CodeSyntax, 0)
		checkFault(t, "( "+src+")", impl.CodeSyntax, 2)
	}
}

func TestReadSymbols(t *testing.T) {
	marks := "! $ % & * / : < = > ? ^ _ ~ + -"
	var want []impl.Datum
	for _, s := range strings.Fields(marks) {
		want = append(want, sym(s))
	}
	checkRead(t, marks, want)
	checkRead(t, "azAZ09 vector-set! <=?", row(sym("azAZ09"), sym("vector-set!"), sym("<=?")))
	full := strings.Repeat("s", impl.MaxSymbol)
	checkRead(t, full, row(sym(full)))
	checkFault(t, full+"s", impl.CodeLimit, 0)
	checkFault(t, "a "+full+"s", impl.CodeLimit, 2)
	checkRead(t, "-"+strings.Repeat("1", impl.MaxSymbol-2)+"x", row(sym("-"+strings.Repeat("1", impl.MaxSymbol-2)+"x")))
	checkFault(t, "-"+strings.Repeat("1", impl.MaxSymbol-1)+"x", impl.CodeLimit, 0)
}

func TestReadBools(t *testing.T) {
	checkRead(t, "#t #f", row(truth(1), truth(0)))
	checkRead(t, "(#t)#f;", row(list(1), truth(1), truth(0)))
	checkRead(t, "#t'#f()", row(truth(1), list(2), sym("quote"), truth(0), list(0)))
	for _, src := range []string{"#", "##", "#x", "# t", "#T", "#F", "#(", "#1", "#tt", "#ft", "#t1", "#f-", "#t!", "#t#",
		"#f#t", "#t#t", "#;", "#'", "#\n", "#true", "#false"} {
		checkFault(t, src, impl.CodeSyntax, 0)
		checkFault(t, "(a "+src, impl.CodeSyntax, 3)
	}
	checkFault(t, "#t.", impl.CodeSyntax, 2)
	checkFault(t, "#t #f.#", impl.CodeSyntax, 5)
}

func TestReadHashBehindRun(t *testing.T) {
	checkFault(t, "1#", impl.CodeSyntax, 1)
	checkFault(t, "-1#t", impl.CodeSyntax, 2)
	checkFault(t, "ab#f", impl.CodeSyntax, 2)
	checkFault(t, "(-#", impl.CodeSyntax, 2)
	checkRead(t, "a #t", row(sym("a"), truth(1)))
	// What is wrong with the run itself comes ahead of what follows it.
	checkFault(t, "1a#", impl.CodeSyntax, 0)
	checkFault(t, above+"#", impl.CodeLimit, 0)
	checkFault(t, strings.Repeat("s", 101)+"#", impl.CodeLimit, 0)
	checkFault(t, strings.Repeat("s", 100)+"#", impl.CodeSyntax, 100)
}

func TestReadQuotes(t *testing.T) {
	quote := func(behind ...impl.Datum) []impl.Datum { return append(row(list(2), sym("quote")), behind...) }
	checkRead(t, "'a", quote(sym("a")))
	checkRead(t, "' \t a", quote(sym("a")))
	checkRead(t, "';c)\n a", quote(sym("a")))
	checkRead(t, "'()", quote(list(0)))
	checkRead(t, "'(1 2)3", quote(list(2), num(1), num(2), num(3)))
	checkRead(t, "''a b", append(quote(quote(sym("a"))...), sym("b")))
	checkRead(t, "('a 'b)", append(append(row(list(2)), quote(sym("a"))...), quote(sym("b"))...))
	checkRead(t, "('('a) b)", row(list(2), list(2), sym("quote"), list(1), list(2), sym("quote"), sym("a"), sym("b")))
	checkRead(t, "a'b'1", row(sym("a"), list(2), sym("quote"), sym("b"), list(2), sym("quote"), num(1)))
	checkRead(t, "(quote a)", quote(sym("a")))
	checkFault(t, "'", impl.CodeSyntax, 1)
	checkFault(t, "''", impl.CodeSyntax, 2)
	checkFault(t, "' ;a", impl.CodeSyntax, 4)
	checkFault(t, "a '\n", impl.CodeSyntax, 4)
	checkFault(t, "(')", impl.CodeSyntax, 2)
	checkFault(t, "(a '' ) b", impl.CodeSyntax, 6)
	checkFault(t, "' )", impl.CodeSyntax, 2)
	checkFault(t, "(';)\n)", impl.CodeSyntax, 5)
	checkFault(t, "('a", impl.CodeSyntax, 3)
	checkFault(t, "'(a", impl.CodeSyntax, 3)
	checkFault(t, "'(')", impl.CodeSyntax, 3)
	checkFault(t, "'a)", impl.CodeSyntax, 2)
	checkFault(t, "'.", impl.CodeSyntax, 1)
}

func TestReadComments(t *testing.T) {
	checkRead(t, ";", nil)
	checkRead(t, ";;(#\"", nil)
	checkRead(t, "a;b", row(sym("a")))
	checkRead(t, "1;b\n2", row(num(1), num(2)))
	checkRead(t, "#t;x\n#f;", row(truth(1), truth(0)))
	checkRead(t, "(;)\r)\n)", row(list(0)))
	checkRead(t, ";a\n;b\n\nc;d;\n", row(sym("c")))
	checkFault(t, "(;)", impl.CodeSyntax, 3)
	checkFault(t, ";a\r)\n)", impl.CodeSyntax, 5)
}

func TestReadListsNotEnded(t *testing.T) {
	checkFault(t, "(", impl.CodeSyntax, 1)
	checkFault(t, "(  ", impl.CodeSyntax, 3)
	checkFault(t, "(a (b)", impl.CodeSyntax, 6)
	checkFault(t, ")", impl.CodeSyntax, 0)
	checkFault(t, "(a)) (", impl.CodeSyntax, 3)
	checkFault(t, " ) )", impl.CodeSyntax, 1)
}

func TestReadOtherBytes(t *testing.T) {
	known := "()'# \t\r\n;"
	for c := range 256 {
		b := string([]byte{byte(c)})
		switch {
		case isMark(b):
			checkFault(t, "#t"+b, impl.CodeSyntax, 0)
			checkRead(t, "a"+b, row(sym("a"+b)))
		case !strings.Contains(known, b):
			checkFault(t, b, impl.CodeSyntax, 0)
			checkFault(t, "a"+b, impl.CodeSyntax, 1)
			checkFault(t, "1"+b, impl.CodeSyntax, 1)
			checkFault(t, "#t"+b, impl.CodeSyntax, 2)
			checkFault(t, "( "+b+")", impl.CodeSyntax, 2)
			checkRead(t, ";"+b, nil)
		}
	}
}

func isMark(b string) bool {
	return strings.Contains("abcdefghijklmnopqrstuvwxyzABCDEFGHIJKLMNOPQRSTUVWXYZ0123456789!$%&*/:<=>?^_~+-", b)
}

func TestReadFirstFault(t *testing.T) {
	checkFault(t, ") "+above, impl.CodeSyntax, 0)
	checkFault(t, above+" )", impl.CodeLimit, 0)
	checkFault(t, "(a . b) #x", impl.CodeSyntax, 3)
	checkFault(t, "1a "+strings.Repeat("s", 101), impl.CodeSyntax, 0)
	checkFault(t, strings.Repeat("s", 101)+" 1a", impl.CodeLimit, 0)
	checkFault(t, "(')[", impl.CodeSyntax, 2)
	// The limits of the data are looked at when all has been read.
	checkFault(t, strings.Repeat("(", 101), impl.CodeSyntax, 101)
	checkFault(t, strings.Repeat("(", 200)+strings.Repeat(")", 201), impl.CodeSyntax, 400)
	checkFault(t, strings.Repeat("'", 4000), impl.CodeSyntax, 4000)
	checkFault(t, strings.Repeat("'1 ", 1001)+"\"", impl.CodeSyntax, 3003)
	checkFault(t, strings.Repeat("'1 ", 1001)+" "+above, impl.CodeLimit, 3004)
	// That of the source is looked at ahead of all else.
	checkFault(t, strings.Repeat(")", 4001), impl.CodeLimit, 4000)
	checkFault(t, strings.Repeat(" ", 5000)+"1", impl.CodeLimit, 4000)
}

func TestReadLimits(t *testing.T) {
	checkRead(t, strings.Repeat(" ", impl.MaxSource), nil)
	checkRead(t, strings.Repeat(" ", impl.MaxSource-1)+"a", row(sym("a")))
	checkFault(t, strings.Repeat(" ", impl.MaxSource)+"a", impl.CodeLimit, impl.MaxSource)
	checkFault(t, strings.Repeat("(", impl.MaxSource), impl.CodeSyntax, impl.MaxSource)

	full := strings.Repeat("'1", impl.MaxData/3)
	data, code, at := impl.Read([]byte(full))
	if code != impl.CodeOK || at != 0 || len(data) != impl.MaxData || !impl.ValidData(data) {
		t.Errorf("%d data: code %d at %d", len(data), code, at)
	}
	checkFault(t, full+" 1", impl.CodeLimit, 0)
	checkFault(t, "("+full+")", impl.CodeLimit, 0)

	open, shut := strings.Repeat("(", impl.MaxDeep), strings.Repeat(")", impl.MaxDeep)
	checkRead(t, open+shut, nested(impl.MaxDeep))
	checkFault(t, "("+open+shut+")", impl.CodeLimit, 0)
	checkFault(t, "'"+open+shut, impl.CodeLimit, 0)
	checkFault(t, "a ("+open+"1"+shut+")", impl.CodeLimit, 0)
	data, code, _ = impl.Read([]byte(strings.Repeat("'", impl.MaxDeep) + "a"))
	if code != impl.CodeOK || len(data) != 2*impl.MaxDeep+1 {
		t.Errorf("quotes of quotes: %d data, code %d", len(data), code)
	}
	checkFault(t, strings.Repeat("'", impl.MaxDeep+1)+"a", impl.CodeLimit, 0)
	checkFault(t, strings.Repeat("'", impl.MaxDeep)+"()", impl.CodeLimit, 0)
}

func TestWriteData(t *testing.T) {
	checkTrip(t, nil, "")
	checkTrip(t, row(), "")
	checkTrip(t, row(num(0), num(-5), truth(1), truth(0), sym("a")), "0\n-5\n#t\n#f\na\n")
	checkTrip(t, row(num(impl.MaxInt), num(-impl.MaxInt-1)), greatest+"\n"+least+"\n")
	checkTrip(t, row(list(0), list(1), list(0), list(2), num(1), num(2)), "()\n(())\n(1 2)\n")
	checkTrip(t, row(list(2), sym("quote"), sym("a")), "(quote a)\n")
	checkTrip(t, row(list(3), sym("a"), list(2), num(1), list(0), truth(0)), "(a (1 ()) #f)\n")
	checkTrip(t, row(sym("-"), sym("+1"), sym("-1a"), sym("--1")), "-\n+1\n-1a\n--1\n")
	long := strings.Repeat("-1", impl.MaxSymbol/2)
	checkTrip(t, row(sym(long)), long+"\n")
	checkTrip(t, nested(impl.MaxDeep), strings.Repeat("(", impl.MaxDeep)+strings.Repeat(")", impl.MaxDeep)+"\n")
	checkTrip(t, make([]impl.Datum, impl.MaxSource/2), strings.Repeat("0\n", impl.MaxSource/2))
	// Valid, though its text is longer than a source may be.
	checkTrip(t, make([]impl.Datum, impl.MaxData), strings.Repeat("0\n", impl.MaxData))
}

func TestDataNotValid(t *testing.T) {
	notValid := map[string][]impl.Datum{
		"int above":               row(num(impl.MaxInt + 1)),
		"int below":               row(num(-impl.MaxInt - 2)),
		"int with text":           row(impl.Datum{Text: []byte("a")}),
		"int with count":          row(impl.Datum{Count: 1}, num(1)),
		"int with count below":    row(impl.Datum{Count: -1}),
		"bool 2":                  row(truth(2)),
		"bool -1":                 row(truth(-1)),
		"bool with text":          row(impl.Datum{Kind: impl.DatBool, Text: []byte("t")}),
		"bool with count":         row(impl.Datum{Kind: impl.DatBool, Count: 1}, num(1)),
		"symbol without text":     row(sym("")),
		"symbol too long":         row(sym(strings.Repeat("s", impl.MaxSymbol+1))),
		"symbol of a digit":       row(sym("1")),
		"symbol from a digit":     row(sym("1a")),
		"symbol of a number":      row(sym("-1")),
		"symbol of a long number": row(sym("-" + strings.Repeat("1", impl.MaxSymbol-1))),
		"symbol with n":           row(impl.Datum{Kind: impl.DatSymbol, Text: []byte("a"), N: 1}),
		"symbol with count":       row(impl.Datum{Kind: impl.DatSymbol, Text: []byte("a"), Count: 1}, num(1)),
		"list with n":             row(impl.Datum{Kind: impl.DatList, N: 1}),
		"list with text":          row(impl.Datum{Kind: impl.DatList, Text: []byte("a")}),
		"list count below":        row(list(-1)),
		"list count least":        row(list(-1 << 63)),
		"list without element":    row(list(1)),
		"list one element short":  row(list(2), num(1)),
		"list within short":       row(list(2), list(1), num(1)),
		"list count greatest":     row(list(1<<63-1), num(1)),
		"not valid within":        row(list(1), truth(2)),
		"not valid behind":        row(num(1), truth(2)),
		"kind 4":                  row(impl.Datum{Kind: 4}),
		"kind -1":                 row(impl.Datum{Kind: -1}),
		"too many":                make([]impl.Datum, impl.MaxData+1),
		"too many within":         append(row(list(impl.MaxData)), make([]impl.Datum, impl.MaxData)...),
		"too deep":                nested(impl.MaxDeep + 1),
		"too deep behind":         append(nested(impl.MaxDeep), nested(impl.MaxDeep+1)...),
	}
	for what, data := range notValid {
		checkNotValid(t, what, data)
	}
	for c := range 256 {
		b := string([]byte{byte(c)})
		for _, text := range []string{"a" + b, b + "a"} {
			data := row(sym(text))
			if isMark(b) && (text[0] < '0' || text[0] > '9') {
				checkTrip(t, data, text+"\n")
			} else {
				checkNotValid(t, text, data)
			}
		}
	}
}

func TestDataValidAtTheEdges(t *testing.T) {
	valid := map[string][]impl.Datum{
		"nothing":       nil,
		"empty texts":   row(impl.Datum{Text: []byte{}}, impl.Datum{Kind: impl.DatList, Text: []byte{}}),
		"most":          append(row(list(impl.MaxData-1)), make([]impl.Datum, impl.MaxData-1)...),
		"deepest twice": append(nested(impl.MaxDeep), nested(impl.MaxDeep)...),
		"atom deepest":  append(nested(impl.MaxDeep)[:impl.MaxDeep-1], list(1), num(1)),
	}
	for what, data := range valid {
		if !impl.ValidData(data) {
			t.Errorf("%s: not valid", what)
		}
	}
}
