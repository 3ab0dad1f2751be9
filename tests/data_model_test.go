package tests

import (
	"math/big"
	"math/rand"
	"regexp"
	"strings"
	"testing"

	"loop.example/s01541/impl"
)

// The model reads a source by the words of the document, as a tree and without
// any of the program's own means, to be held against what Read answers.

var (
	modelGap    = regexp.MustCompile(`^(?:[ \t\r\n]|;[^\n]*)*`)
	modelRun    = regexp.MustCompile(`^[a-zA-Z0-9!$%&*/:<=>?^_~+-]+`)
	modelNumber = regexp.MustCompile(`^-?[0-9]+$`)
	modelBool   = regexp.MustCompile(`^#[tf](?:[^a-zA-Z0-9!$%&*/:<=>?^_~+#-]|$)`)
)

type tree struct {
	atom impl.Datum
	kids []*tree // of a list
}

func (d *tree) flat() []impl.Datum {
	out := row(d.atom)
	for _, k := range d.kids {
		out = append(out, k.flat()...)
	}
	if d.atom.Kind == impl.DatList {
		out[0].Count = len(d.kids)
	}
	return out
}

func (d *tree) deep() int {
	if d.atom.Kind != impl.DatList {
		return 0
	}
	deepest := 0
	for _, k := range d.kids {
		deepest = max(deepest, k.deep())
	}
	return deepest + 1
}

func (d *tree) text() string {
	switch d.atom.Kind {
	case impl.DatInt:
		return big.NewInt(int64(d.atom.N)).String()
	case impl.DatBool:
		return []string{"#f", "#t"}[d.atom.N]
	case impl.DatSymbol:
		return string(d.atom.Text)
	}
	var parts []string
	for _, k := range d.kids {
		parts = append(parts, k.text())
	}
	return "(" + strings.Join(parts, " ") + ")"
}

type model struct {
	src  string
	at   int
	code int // once a fault was found; at is its offset then
}

func (m *model) fault(code, at int) *tree {
	m.code, m.at = code, at
	return nil
}

func (m *model) gap() {
	m.at += len(modelGap.FindString(m.src[m.at:]))
}

// datum reads one datum; ahead of it stands no gap, and not the end.
func (m *model) datum() *tree {
	start := m.at
	switch m.src[start] {
	case '(':
		return m.list()
	case ')':
		return m.fault(impl.CodeSyntax, start)
	case '\'':
		return m.quote()
	case '#':
		if !modelBool.MatchString(m.src[start:]) {
			return m.fault(impl.CodeSyntax, start)
		}
		m.at += 2
		return &tree{atom: truth(strings.Index("ft", m.src[start+1:start+2]))}
	}
	return m.run(modelRun.FindString(m.src[start:]))
}

func (m *model) list() *tree {
	d := &tree{atom: list(0)}
	m.at++
	for m.gap(); m.at < len(m.src); m.gap() {
		if m.src[m.at] == ')' {
			m.at++
			return d
		}
		kid := m.datum()
		if kid == nil {
			return nil
		}
		d.kids = append(d.kids, kid)
	}
	return m.fault(impl.CodeSyntax, len(m.src))
}

func (m *model) quote() *tree {
	m.at++
	m.gap()
	if m.at == len(m.src) {
		return m.fault(impl.CodeSyntax, m.at)
	}
	kid := m.datum()
	if kid == nil {
		return nil
	}
	return &tree{atom: list(0), kids: []*tree{{atom: sym("quote")}, kid}}
}

func (m *model) run(run string) *tree {
	start, d := m.at, &tree{}
	switch {
	case run == "":
		return m.fault(impl.CodeSyntax, start)
	case modelNumber.MatchString(run):
		n, _ := new(big.Int).SetString(run, 10)
		low, high := big.NewInt(-impl.MaxInt-1), big.NewInt(impl.MaxInt)
		if n.Cmp(low) < 0 || n.Cmp(high) > 0 {
			return m.fault(impl.CodeLimit, start)
		}
		d.atom = num(int(n.Int64()))
	case run[0] >= '0' && run[0] <= '9':
		return m.fault(impl.CodeSyntax, start)
	case len(run) > impl.MaxSymbol:
		return m.fault(impl.CodeLimit, start)
	default:
		d.atom = sym(run)
	}
	m.at += len(run)
	if strings.HasPrefix(m.src[m.at:], "#") {
		return m.fault(impl.CodeSyntax, m.at)
	}
	return d
}

// modelTrees answers the trees of a source, or a code and an offset.
func modelTrees(src string) ([]*tree, int, int) {
	if len(src) > impl.MaxSource {
		return nil, impl.CodeLimit, impl.MaxSource
	}
	m := &model{src: src}
	var trees []*tree
	count, deepest := 0, 0
	for m.gap(); m.at < len(src); m.gap() {
		d := m.datum()
		if d == nil {
			return nil, m.code, m.at
		}
		trees = append(trees, d)
		count += len(d.flat())
		deepest = max(deepest, d.deep())
	}
	if count > impl.MaxData || deepest > impl.MaxDeep {
		return nil, impl.CodeLimit, 0
	}
	return trees, impl.CodeOK, 0
}

func modelRead(src string) ([]impl.Datum, string, int, int) {
	trees, code, at := modelTrees(src)
	var data []impl.Datum
	text := ""
	for _, d := range trees {
		data = append(data, d.flat()...)
		text += d.text() + "\n"
	}
	return data, text, code, at
}

func checkModel(t *testing.T, src string) {
	t.Helper()
	want, text, code, at := modelRead(src)
	if code != impl.CodeOK {
		checkFault(t, src, code, at)
		return
	}
	checkRead(t, src, want)
	checkTrip(t, want, text)
}

func TestReadAllShortSources(t *testing.T) {
	const alphabet = "()'#t1-a ;\n."
	sources := []string{""}
	for range 5 {
		var longer []string
		for _, s := range sources {
			checkModel(t, s)
			for _, c := range alphabet {
				longer = append(longer, s+string(c))
			}
		}
		sources = longer
		if t.Failed() {
			return
		}
	}
	for _, s := range sources {
		checkModel(t, s)
	}
}

func TestReadRowsOfTokens(t *testing.T) {
	pieces := []string{"(", ")", "'", "#t", "#f", "0", "-7", "-", "+", "ab", "-x", " ", "\n", "\t", "\r", ";c", "#", ".", "1a",
		greatest, least, above, below, strings.Repeat("s", 100), strings.Repeat("s", 101), strings.Repeat("'", 40),
		strings.Repeat("(", 60), strings.Repeat(")", 60)}
	random := rand.New(rand.NewSource(1))
	for range 30000 {
		// Most sources are of the pieces that are no fault of their own, or few
		// would be read to their end.
		from := 16
		if random.Intn(4) == 0 {
			from = len(pieces)
		}
		var src strings.Builder
		for range random.Intn(30) {
			src.WriteString(pieces[random.Intn(from)])
		}
		checkModel(t, src.String())
		if t.Failed() {
			return
		}
	}
}

func randomTree(random *rand.Rand, deep int) *tree {
	symbols := []string{"a", "-", "+", "-a", "+1", "--1", "-1a", "quote", "!$%&*/:<=>?^_~", strings.Repeat("z9", 50)}
	numbers := []int{0, 1, -1, 10, -307, impl.MaxInt, -impl.MaxInt - 1}
	switch kind := random.Intn(6); {
	case kind == 0:
		return &tree{atom: num(numbers[random.Intn(len(numbers))])}
	case kind == 1:
		return &tree{atom: truth(random.Intn(2))}
	case kind == 2 || deep == 0:
		return &tree{atom: sym(symbols[random.Intn(len(symbols))])}
	}
	d := &tree{atom: list(0)}
	for range random.Intn(5) {
		d.kids = append(d.kids, randomTree(random, deep-1))
	}
	return d
}

func TestDataWrittenAndRead(t *testing.T) {
	random := rand.New(rand.NewSource(2))
	for range 5000 {
		var data []impl.Datum
		text := ""
		for range random.Intn(6) {
			d := randomTree(random, 6)
			data = append(data, d.flat()...)
			text += d.text() + "\n"
		}
		if len(data) > impl.MaxData {
			continue
		}
		checkTrip(t, data, text)
		// One datum less leaves a list short, unless the last one was a
		// datum of the row.
		if len(data) > 0 && !endsWithWhole(data) {
			checkNotValid(t, "cut", data[:len(data)-1])
		}
		if t.Failed() {
			return
		}
	}
}

// endsWithWhole tells whether the last datum is one of the row, in no list.
func endsWithWhole(data []impl.Datum) bool {
	owed := 0
	for _, d := range data[:len(data)-1] {
		if owed > 0 {
			owed--
		}
		owed += d.Count
	}
	return owed == 0
}

// modelWhole tells whether the counts come to a row of whole data.
func modelWhole(data []impl.Datum) bool {
	owed := 0
	for _, d := range data {
		owed = max(owed-1, 0) + d.Count
	}
	return owed == 0
}

func TestValidDataAllShortRows(t *testing.T) {
	pool := row(num(1), sym("a"), list(0), list(1), list(2), list(3))
	rows := [][]impl.Datum{nil}
	for range 5 {
		var longer [][]impl.Datum
		for _, r := range rows {
			for _, d := range pool {
				longer = append(longer, append(append(row(), r...), d))
			}
		}
		rows = longer
		for _, r := range rows {
			if got := impl.ValidData(r); got != modelWhole(r) {
				t.Fatalf("ValidData(%v): %v", r, got)
			}
		}
	}
}
