package parse_test

import (
	"math/rand"
	"slices"
	"strconv"
	"strings"
	"testing"

	"commissary/api"
	"commissary/expr"
	"commissary/lex"
	"commissary/parse"
	"commissary/value"
)

// grammar is the document's, with quotes around what stands for itself.
const grammar = `
query  = select { 'UNION' 'ALL' select } [ 'ORDER' 'BY' key { ',' key } ] [ 'LIMIT' num ] end
expr   = or end
select = 'SELECT' [ 'DISTINCT' ] item { ',' item } 'FROM' source { join } [ 'WHERE' or ] [ 'GROUP' 'BY' column { ',' column } ]
item   = '*' | or [ 'AS' name ]
source = name [ 'AS' name ]
join   = ( 'JOIN' | 'LEFT' 'JOIN' | 'SEMI' 'JOIN' | 'ANTI' 'JOIN' ) source 'ON' or
key    = name [ 'DESC' ]
column = name [ '.' name ]
or     = and { 'OR' and }
and    = not { 'AND' not }
not    = 'NOT' not | cmp
cmp    = sum { ( '=' | '<>' | '<' | '<=' | '>' | '>=' ) sum | 'IS' [ 'NOT' ] 'NULL' }
sum    = prod { ( '+' | '-' ) prod }
prod   = unary { ( '*' | '/' | '%' ) unary }
unary  = '-' unary | first
first  = num | text | 'TRUE' | 'FALSE' | 'NULL' | column | '(' or ')' | 'COUNT' '(' '*' ')' | ( 'COUNT' | 'SUM' | 'MIN' | 'MAX' ) '(' or ')'
`

// node is a piece of the grammar: it matches what one of its ways does, each a row of nodes.
type node struct {
	word string // of a node without ways: a terminal in quotes, a kind of tokens, or a rule
	ways [][]*node
	many bool // it may stand there any number of times
}

// rules is the grammar's rules by their names.
func rules() map[string]*node {
	all := map[string]*node{}
	for _, line := range strings.Split(strings.TrimSpace(grammar), "\n") {
		words := strings.Fields(line)
		all[words[0]], _ = readWays(words[2:], "")
	}
	return all
}

// readWays reads up to a closing word, and is what stands behind it, too.
func readWays(words []string, closing string) (*node, []string) {
	n := &node{ways: [][]*node{nil}}
	add := func(x *node) { n.ways[len(n.ways)-1] = append(n.ways[len(n.ways)-1], x) }
	for len(words) > 0 && words[0] != closing {
		word := words[0]
		words = words[1:]
		var x *node
		switch word {
		case "|":
			n.ways = append(n.ways, nil)
			continue
		case "(":
			x, words = readWays(words, ")")
		case "[":
			x, words = readWays(words, "]")
			x.ways = append(x.ways, nil)
		case "{":
			x, words = readWays(words, "}")
			x.many = true
		default:
			x = &node{word: word}
		}
		add(x)
	}
	return n, words[min(len(words), 1):]
}

// matcher goes all ways of the grammar at once, and so finds the first token that no way passes.
type matcher struct {
	rules  map[string]*node
	tokens []api.Token
	seen   map[string][]int // by rule and place, where it may end
	far    int              // the last token that was looked at
}

// matchRow is where a row of nodes may end that begins at one of some places.
func (m *matcher) matchRow(row []*node, at []int) []int {
	for _, n := range row {
		var ends []int
		for _, place := range at {
			ends = append(ends, m.match(n, place)...)
		}
		slices.Sort(ends)
		at = slices.Compact(ends)
	}
	return at
}

func (m *matcher) match(n *node, place int) []int {
	if n.word != "" {
		return m.matchWord(n.word, place)
	}
	var ends []int
	if n.many {
		ends = []int{place}
	}
	for _, way := range n.ways {
		ends = append(ends, m.matchRow(way, []int{place})...)
	}
	if n.many {
		for i := 1; i < len(ends); i++ { // what is found is gone on from
			for _, way := range n.ways {
				ends = append(ends, m.matchRow(way, ends[i:i+1])...)
			}
		}
	}
	slices.Sort(ends)
	return slices.Compact(ends)
}

func (m *matcher) matchWord(word string, place int) []int {
	if rule := m.rules[word]; rule != nil {
		id := word + strconv.Itoa(place)
		if ends, there := m.seen[id]; there {
			return ends
		}
		ends := m.match(rule, place)
		m.seen[id] = ends
		return ends
	}
	if place >= len(m.tokens) {
		return nil
	}
	m.far = max(m.far, place)
	t := m.tokens[place]
	kinds := map[string]int{"name": api.TokWord, "num": api.TokNum, "text": api.TokText, "end": api.TokEnd}
	is := t.Kind == kinds[word]
	if word[0] == '\'' {
		is = (t.Kind == api.TokKey || t.Kind == api.TokSign) && "'"+t.S+"'" == word
	}
	if is {
		return []int{place + 1}
	}
	return nil
}

// wrong is the place of the first token that may not stand there, as the rule goes.
func wrong(all map[string]*node, rule string, tokens []api.Token) (int, bool) {
	m := &matcher{rules: all, tokens: tokens, seen: map[string][]int{}}
	if slices.Contains(m.matchWord(rule, 0), len(tokens)) {
		return 0, false
	}
	return tokens[m.far].At, true
}

// checkGrammar holds Parse and Expr against the matcher, and tells whether the text is a query.
func checkGrammar(t *testing.T, all map[string]*node, text string) bool {
	t.Helper()
	tokens, _, e := lex.All(text)
	if e != api.OK {
		t.Fatalf("%q: %d", text, e)
	}
	check := func(rule string, place int, e api.Errno, nothing bool) bool {
		want, is := wrong(all, rule, tokens)
		// an aggregate may stand where none may be, and nothing of so few tokens is too much
		long := strings.Contains(text, "(") || len(tokens) > 20
		switch {
		case is && (e != api.ErrParse || place != want || !nothing),
			!is && e != api.OK && !(long && e == api.ErrLong && place == 0 && nothing),
			!is && e == api.OK && place != 0:
			t.Fatalf("%s of %q: %d, %d, %t, not %t, %d", rule, text, place, e, nothing, is, want)
		}
		return e == api.OK
	}
	q, place, e := parse.Parse(text)
	isQuery := check("query", place, e, sameQuery(q, api.Query{}))
	x, place, e := parse.Expr(text)
	check("expr", place, e, sameExpr(x, api.Expr{}))
	return isQuery
}

// words is one of each kind of tokens, and what is alike but for the kind.
func words() []string {
	l := append(lex.Keys(), strings.Fields("( ) , . * + - / % = < > <= >= <> a t 1 0 'b' '' '(' 'FROM' 'NULL' ',' '*'")...)
	return append(l, "") // the end
}

// P11.1: at each place of queries that have something of each row of the grammar, each token: in the place of what stands there, ahead of it, and ahead of nothing.
func TestEachToken(t *testing.T) {
	all := rules()
	queries := 0
	for _, text := range []string{
		"SELECT DISTINCT a AS b, t.a FROM t AS u JOIN v ON a WHERE b GROUP BY a, t.b UNION ALL SELECT * FROM t ORDER BY a DESC, b LIMIT 1",
		"SELECT *, 1 FROM t LEFT JOIN v AS w ON a SEMI JOIN v ON NOT a ANTI JOIN v ON TRUE LIMIT 1",
		"NOT a OR b AND - c * 2 + d < ( e ) IS NOT NULL = 'b' IS NULL",
		"SELECT COUNT ( * ) - COUNT ( a ) FROM t WHERE ( a = b ) IS NULL ORDER BY a",
		"SUM ( a + 1 ) % NULL",
	} {
		tokens := strings.Fields(text)
		for i := range len(tokens) + 1 {
			head := strings.Join(tokens[:i], " ") + " "
			rest := strings.Join(tokens[i:], " ")
			after := strings.Join(tokens[min(i+1, len(tokens)):], " ")
			for _, word := range words() {
				for _, tail := range []string{"", rest, after} {
					if checkGrammar(t, all, head+word+" "+tail) {
						queries++
					}
				}
			}
		}
	}
	if queries < 100 {
		t.Error("too few queries are met:", queries)
	}
}

// P11.1: tokens as they come.
func TestAnyTokens(t *testing.T) {
	all := rules()
	r := rand.New(rand.NewSource(1))
	l := words()
	for range 5000 {
		var text []string
		for range r.Intn(6) {
			text = append(text, l[r.Intn(len(l))])
		}
		checkGrammar(t, all, strings.Join(text, " "))
		checkGrammar(t, all, "SELECT a FROM t WHERE "+strings.Join(text, " "))
	}
}

// writer writes a query down, token by token, while it draws what the tokens are to mean.
type writer struct {
	r      *rand.Rand
	tokens []string
	agged  bool // whether an aggregate may stand there
}

func (w *writer) say(words ...string) { w.tokens = append(w.tokens, words...) }

func (w *writer) maybe() bool { return w.r.Intn(3) == 0 }

func (w *writer) name() string {
	l := []string{"a", "b", "t", "u_1", "as", "Null", "_", "count"}
	name := l[w.r.Intn(len(l))]
	w.say(name)
	return name
}

// few is what f draws, from one to so many times, with words between.
func few[T any](w *writer, most int, f func() T, between ...string) []T {
	l := []T{f()}
	for len(l) < most && w.maybe() {
		w.say(between...)
		l = append(l, f())
	}
	return l
}

func (w *writer) query() api.Query {
	q := api.Query{Limit: -1, Parts: few(w, api.MaxParts, w.part, "UNION", "ALL")}
	if w.maybe() {
		w.say("ORDER", "BY")
		q.Order = few(w, api.MaxKeys, w.key, ",")
	}
	if w.maybe() {
		q.Limit = w.r.Intn(3) * w.r.Intn(api.MaxInt>>w.r.Intn(50)+1) / 2
		w.say("LIMIT", strconv.Itoa(q.Limit))
	}
	return q
}

func (w *writer) key() api.Key {
	k := api.Key{Name: w.name(), Down: w.maybe()}
	if k.Down {
		w.say("DESC")
	}
	return k
}

func (w *writer) part() api.Select {
	w.say("SELECT")
	s := api.Select{Distinct: w.maybe()}
	if s.Distinct {
		w.say("DISTINCT")
	}
	s.Items = few(w, api.MaxItems, w.item, ",")
	w.say("FROM")
	s.From = []api.Source{w.source(api.JoinFirst)}
	for len(s.From) < api.MaxSources && w.maybe() {
		s.From = append(s.From, w.join())
	}
	if w.maybe() {
		w.say("WHERE")
		s.Where = w.expr(0, 1)
	}
	if w.maybe() {
		w.say("GROUP", "BY")
		s.Group = few(w, api.MaxGroups, w.column, ",")
	}
	return s
}

func (w *writer) item() api.Item {
	if w.maybe() {
		w.say("*")
		return api.Item{Star: true}
	}
	w.agged = true
	i := api.Item{E: w.expr(0, 1)}
	w.agged = false
	if w.maybe() {
		w.say("AS")
		i.As = w.name()
	}
	return i
}

func (w *writer) source(kind int) api.Source {
	s := api.Source{Table: w.name(), Join: kind}
	s.As = s.Table
	if w.maybe() {
		w.say("AS")
		s.As = w.name()
	}
	return s
}

func (w *writer) join() api.Source {
	kind := api.JoinInner + w.r.Intn(4)
	w.say(map[int][]string{api.JoinInner: {"JOIN"}, api.JoinLeft: {"LEFT", "JOIN"}, api.JoinSemi: {"SEMI", "JOIN"}, api.JoinAnti: {"ANTI", "JOIN"}}[kind]...)
	s := w.source(kind)
	w.say("ON")
	s.On = w.expr(0, 1)
	return s
}

func (w *writer) column() api.Expr {
	name := w.name()
	if w.maybe() {
		w.say(".")
		return of(name, w.name())
	}
	return col(name)
}

// levels is the operators of two parts, by levels of the grammar; those of one part stand between.
func levels() [][]int {
	return [][]int{{api.OpOr}, {api.OpAnd}, {api.OpNot}, {api.OpEq, api.OpNe, api.OpLt, api.OpLe, api.OpGt, api.OpGe, api.OpNull, api.OpThere}, {api.OpAdd, api.OpSub}, {api.OpMul, api.OpDiv, api.OpMod}, {api.OpNeg}, nil}
}

// sign is how an operator is written.
func sign(n int) []string {
	return map[int][]string{
		api.OpOr: {"OR"}, api.OpAnd: {"AND"}, api.OpNot: {"NOT"}, api.OpEq: {"="}, api.OpNe: {"<>"}, api.OpLt: {"<"}, api.OpLe: {"<="}, api.OpGt: {">"}, api.OpGe: {">="},
		api.OpNull: {"IS", "NULL"}, api.OpThere: {"IS", "NOT", "NULL"}, api.OpAdd: {"+"}, api.OpSub: {"-"}, api.OpMul: {"*"}, api.OpDiv: {"/"}, api.OpMod: {"%"}, api.OpNeg: {"-"},
	}[n]
}

// expr is an expression of a level of the grammar, within so many ( ) at most.
func (w *writer) expr(level, within int) api.Expr {
	ops := levels()[level]
	switch {
	case len(ops) == 0:
		return w.first(within)
	case len(ops) == 1 && expr.Arity(ops[0]) == 1:
		if w.maybe() {
			w.say(sign(ops[0])...)
			return op(ops[0], w.expr(level, within))
		}
		return w.expr(level+1, within)
	}
	e := w.expr(level+1, within)
	for w.maybe() {
		n := ops[w.r.Intn(len(ops))]
		w.say(sign(n)...)
		if n == api.OpNull || n == api.OpThere {
			e = op(n, e)
		} else {
			e = op(n, e, w.expr(level+1, within))
		}
	}
	return e
}

func (w *writer) first(within int) api.Expr {
	values := []api.Value{value.Null(), value.Bool(true), value.Bool(false), value.Int(0), value.Int(12), value.Int(api.MaxInt), value.Text(""), value.Text("it's"), value.Text("-- ("), value.Text("OR")}
	switch n := w.r.Intn(6); {
	case n == 0 && within > 0:
		return w.enclosed(within)
	case n == 1 && w.agged && within > 0:
		return w.agg(within)
	case n < 4:
		return w.column()
	}
	v := values[w.r.Intn(len(values))]
	w.say(value.Show(v))
	return lit(v)
}

func (w *writer) enclosed(within int) api.Expr {
	w.say("(")
	e := w.expr(0, within-1)
	w.say(")")
	return e
}

func (w *writer) agg(within int) api.Expr {
	n := api.AggRows + w.r.Intn(5)
	w.say([]string{"COUNT", "COUNT", "SUM", "MIN", "MAX"}[n-api.AggRows])
	if n == api.AggRows {
		w.say("(", "*", ")")
		return rows
	}
	w.agged = false
	e := agg(n, w.enclosed(within))
	w.agged = true
	return e
}

// text is the tokens with something between each two of them.
func (w *writer) text(gaps []string) string {
	text := gaps[w.r.Intn(len(gaps))]
	for _, token := range w.tokens {
		text += token + gaps[w.r.Intn(len(gaps))]
	}
	return text
}

// fits tells whether the expressions of q may be.
func fits(q api.Query) bool {
	for _, s := range q.Parts {
		for _, i := range s.Items {
			if !i.Star && expr.Check(i.E) != api.OK {
				return false
			}
		}
		for _, x := range s.From[1:] {
			if expr.Check(x.On) != api.OK {
				return false
			}
		}
		if s.Where.Kind != 0 && expr.Check(s.Where) != api.OK {
			return false
		}
	}
	return true
}

// P11.1, P11.3: what is drawn by the grammar is parsed as what it is to mean, whatever blanks and remarks stand between.
func TestDrawn(t *testing.T) {
	r := rand.New(rand.NewSource(1))
	good := 0
	for range 4000 {
		w := &writer{r: r}
		want := w.query()
		text := w.text([]string{" "})
		tokens, place, e := lex.All(text)
		if e != api.OK || !fits(want) {
			wantPlace, wantE := place, e
			if e == api.OK {
				wantPlace, wantE = 0, api.ErrLong
			}
			wantErr(t, text, wantPlace, wantE)
			continue
		}
		good++
		wantQuery(t, text, want)
		wantQuery(t, w.text([]string{" ", "\n", "\t ", " -- it's\n", " --\n--\r\n"}), want)
		cut := tokens[r.Intn(len(tokens))].At
		if _, place, e := parse.Parse(text[:cut]); e == api.ErrParse && place != cut {
			t.Errorf("Parse(%q): %d, %d", text[:cut], place, e)
		}
	}
	if good < 3000 {
		t.Error("too few queries may be:", good)
	}
}

// P11.1: all texts of few tokens of an expression.
func TestShortExprs(t *testing.T) {
	all := rules()
	l := strings.Fields("a 1 NOT - + * = AND OR IS NULL ( ) COUNT .")
	var try func(text string, more int)
	try = func(text string, more int) {
		checkGrammar(t, all, text)
		for i := 0; i < len(l) && more > 0; i++ {
			try(text+" "+l[i], more-1)
		}
	}
	try("", 4)
}

// P11.1 to P11.3: any text.
func FuzzParse(f *testing.F) {
	for _, text := range []string{"", fullText, "SELECT COUNT(*) FROM t", "NOT - a IS NULL", "SUM((a) OR b)", "SELECT 'it''s' -- x\n FROM t"} {
		f.Add(text)
	}
	all := rules()
	f.Fuzz(func(t *testing.T, text string) {
		tokens, place, e := lex.All(text)
		if e != api.OK {
			wantErr(t, text, place, e)
			wantExprErr(t, text, place, e)
			return
		}
		if len(tokens) > 200 {
			return
		}
		if !checkGrammar(t, all, text) {
			return
		}
		q, _, _ := parse.Parse(text)
		if again := "-- x\n" + lex.Show(tokens) + "\n"; len(again) <= api.MaxQuery {
			wantQuery(t, again, q)
		}
	})
}
