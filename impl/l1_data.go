package impl

import (
	"bytes"
	"errors"
	"iter"
	"strconv"
	"strings"
)

const (
	CodeOK       = 0
	CodeBad      = 1
	CodeSyntax   = 2
	CodeUnbound  = 3
	CodeLimit    = 4
	CodeCorrupt  = 5
	CodeUnsafe   = 6
	CodeType     = 7
	CodeArity    = 8
	CodeIndex    = 9
	CodeZero     = 10
	CodeOverflow = 11
	CodeUnset    = 12
	CodeMemory   = 13
	CodeFuel     = 14
)

const (
	DatInt    = 0
	DatBool   = 1
	DatSymbol = 2
	DatList   = 3
)

const (
	MaxSource = 4000
	MaxData   = 3000
	MaxDeep   = 100
	MaxSymbol = 100
	MaxInt    = 2305843009213693951
)

// Datum is one datum in preorder, followed by the elements of a list.
type Datum struct {
	Kind  int
	N     int
	Text  []byte
	Count int
}

// symbolMarks are the bytes that a symbol may have beside letters and digits.
const symbolMarks = "!$%&*/:<=>?^_~+-"

// ValidData tells whether the data are a row of whole data within the limits.
func ValidData(data []Datum) bool {
	if len(data) > MaxData {
		return false
	}
	for len(data) > 0 {
		rest, ok := behindDatum(data, 0)
		if !ok {
			return false
		}
		data = rest
	}
	return true
}

// behindDatum answers what stands behind the first whole datum, and whether
// there is a valid one. around is the number of lists that it stands within.
func behindDatum(data []Datum, around int) ([]Datum, bool) {
	if len(data) == 0 || !validAlone(data[0]) {
		return nil, false
	}
	first, rest := data[0], data[1:]
	if first.Kind != DatList {
		return rest, true
	}
	if around == MaxDeep {
		return nil, false
	}
	// A Count may be far beyond what is there: the first element that is
	// missing ends the loop.
	for range first.Count {
		behind, ok := behindDatum(rest, around+1)
		if !ok {
			return nil, false
		}
		rest = behind
	}
	return rest, true
}

// validAlone tells whether a datum is valid but for the elements of a list.
func validAlone(d Datum) bool {
	switch d.Kind {
	case DatInt:
		return smallInt(d.N) && len(d.Text) == 0 && d.Count == 0
	case DatBool:
		return (d.N == 0 || d.N == 1) && len(d.Text) == 0 && d.Count == 0
	case DatSymbol:
		return d.N == 0 && symbolText(d.Text) && d.Count == 0
	case DatList:
		return d.N == 0 && len(d.Text) == 0 && d.Count >= 0
	}
	return false
}

func smallInt(n int) bool {
	return -MaxInt-1 <= n && n <= MaxInt
}

func symbolText(text []byte) bool {
	if len(text) == 0 || len(text) > MaxSymbol {
		return false
	}
	for _, c := range text {
		if !symbolByte(c) {
			return false
		}
	}
	return !digitByte(text[0]) && !numberText(text)
}

// numberText tells whether the text is digits, perhaps with a `-` before them.
func numberText(text []byte) bool {
	digits := bytes.TrimPrefix(text, []byte("-"))
	for _, c := range digits {
		if !digitByte(c) {
			return false
		}
	}
	return len(digits) > 0
}

func digitByte(c byte) bool {
	return '0' <= c && c <= '9'
}

func symbolByte(c byte) bool {
	letter := 'a' <= c && c <= 'z' || 'A' <= c && c <= 'Z'
	return letter || digitByte(c) || strings.IndexByte(symbolMarks, c) >= 0
}

// readFault is what a reader stops with: the code of the fault, and in a source
// its offset.
type readFault struct {
	code int
	at   int
}

func (f readFault) Error() string {
	return "code " + strconv.Itoa(f.code) + " at " + strconv.Itoa(f.at)
}

// Read reads the data of a source, or answers its first fault and where it is.
func Read(src []byte) (data []Datum, code int, at int) {
	defer func() {
		if caught := recover(); caught != nil {
			fault := ownFault(caught)
			data, code, at = nil, fault.code, fault.at
		}
	}()
	return readSource(src), CodeOK, 0
}

// ownFault panics once more with what is no fault of a reader's: a mistake of
// the program must not be taken for one of what it reads.
func ownFault(caught any) readFault {
	var fault readFault
	if err, ok := caught.(error); ok && errors.As(err, &fault) {
		return fault
	}
	panic(caught)
}

func readSource(src []byte) []Datum {
	if len(src) > MaxSource {
		panic(readFault{CodeLimit, MaxSource})
	}
	var r dataReader
	for t := range tokens(src) {
		r.take(t)
	}
	if len(r.open) > 0 {
		panic(readFault{CodeSyntax, len(src)})
	}
	if !ValidData(r.data) {
		panic(readFault{CodeLimit, 0})
	}
	return r.data
}

// token is one token of a source, from at to ahead of end.
type token struct {
	at   int
	end  int
	mark byte // one of ( ) ' or 0 for an atom
	atom Datum
}

// tokens makes a token no sooner than it is asked for, so that a fault in it
// comes behind those of the tokens ahead of it.
func tokens(src []byte) iter.Seq[token] {
	return func(yield func(token) bool) {
		at := behindGap(src, 0)
		for at < len(src) {
			t := tokenAt(src, at)
			if !yield(t) {
				return
			}
			at = behindGap(src, t.end)
		}
	}
}

// behindGap answers where the spaces and comments that begin at a place end.
func behindGap(src []byte, at int) int {
	comment := false
	for at < len(src) {
		switch src[at] {
		case '\n':
			comment = false
		case ';':
			comment = true
		case ' ', '\t', '\r':
		default:
			if !comment {
				return at
			}
		}
		at++
	}
	return at
}

func tokenAt(src []byte, at int) token {
	c := src[at]
	switch {
	case c == '(' || c == ')' || c == '\'':
		return token{at: at, end: at + 1, mark: c}
	case c == '#':
		return boolAt(src, at)
	case symbolByte(c):
		return runAt(src, at)
	}
	panic(readFault{CodeSyntax, at})
}

func boolAt(src []byte, at int) token {
	end := at + 2
	if end > len(src) || end < len(src) && (src[end] == '#' || symbolByte(src[end])) {
		panic(readFault{CodeSyntax, at})
	}
	t := token{at: at, end: end, atom: Datum{Kind: DatBool}}
	switch src[at+1] {
	case 't':
		t.atom.N = 1
	case 'f':
	default:
		panic(readFault{CodeSyntax, at})
	}
	return t
}

func runAt(src []byte, at int) token {
	end := at
	for end < len(src) && symbolByte(src[end]) {
		end++
	}
	t := token{at: at, end: end, atom: atomOf(src[at:end], at)}
	if end < len(src) && src[end] == '#' {
		panic(readFault{CodeSyntax, end})
	}
	return t
}

// atomOf makes a number or a symbol from a run of bytes of symbols.
func atomOf(run []byte, at int) Datum {
	if numberText(run) {
		n, err := strconv.Atoi(string(run))
		if err != nil || !smallInt(n) {
			panic(readFault{CodeLimit, at})
		}
		return Datum{Kind: DatInt, N: n}
	}
	if digitByte(run[0]) {
		panic(readFault{CodeSyntax, at})
	}
	if len(run) > MaxSymbol {
		panic(readFault{CodeLimit, at})
	}
	return Datum{Kind: DatSymbol, Text: bytes.Clone(run)}
}

// dataReader keeps the data that were read, and the lists not ended yet, the
// innermost last.
type dataReader struct {
	data []Datum
	open []openList
}

// openList is a list not ended yet. One that a quote has begun is ended by its
// datum, not by a `)`.
type openList struct {
	place  int
	quoted bool
}

func (r *dataReader) take(t token) {
	switch t.mark {
	case '(':
		r.begin(false)
	case '\'':
		r.begin(true)
		r.add(Datum{Kind: DatSymbol, Text: []byte("quote")})
	case ')':
		r.end(t.at)
	default:
		r.add(t.atom)
		r.endQuotes()
	}
}

// add puts a datum behind the others and counts it in the list around it.
func (r *dataReader) add(d Datum) {
	if len(r.open) > 0 {
		r.data[r.open[len(r.open)-1].place].Count++
	}
	r.data = append(r.data, d)
}

func (r *dataReader) begin(quoted bool) {
	r.add(Datum{Kind: DatList})
	r.open = append(r.open, openList{place: len(r.data) - 1, quoted: quoted})
}

func (r *dataReader) end(at int) {
	last := len(r.open) - 1
	if last < 0 || r.open[last].quoted {
		panic(readFault{CodeSyntax, at})
	}
	r.open = r.open[:last]
	r.endQuotes()
}

// endQuotes ends the quotes that wait for the datum that is whole now: it makes
// the innermost one whole, this the one around it, and so on.
func (r *dataReader) endQuotes() {
	for len(r.open) > 0 && r.open[len(r.open)-1].quoted {
		r.open = r.open[:len(r.open)-1]
	}
}

// WriteData writes each datum of the row on a line, or nothing for data that
// are not valid.
func WriteData(data []Datum) []byte {
	if !ValidData(data) {
		return nil
	}
	var out []byte
	for len(data) > 0 {
		out, data = writeDatum(out, data)
		out = append(out, '\n')
	}
	return out
}

// writeDatum writes the first whole datum and answers the data behind it.
func writeDatum(out []byte, data []Datum) ([]byte, []Datum) {
	first, rest := data[0], data[1:]
	switch first.Kind {
	case DatInt:
		return strconv.AppendInt(out, int64(first.N), 10), rest
	case DatBool:
		return append(out, boolText(first.N)...), rest
	case DatSymbol:
		return append(out, first.Text...), rest
	}
	out = append(out, '(')
	for i := range first.Count {
		if i > 0 {
			out = append(out, ' ')
		}
		out, rest = writeDatum(out, rest)
	}
	return append(out, ')'), rest
}

func boolText(n int) string {
	if n == 1 {
		return "#t"
	}
	return "#f"
}
