package lex_test

import (
	"math/rand"
	"regexp"
	"slices"
	"strconv"
	"strings"
	"testing"

	"commissary/api"
	"commissary/lex"
)

const reserved = "AND ANTI AS BY COUNT DESC DISTINCT FALSE FROM GROUP IS JOIN LEFT LIMIT MAX MIN NOT NULL ON OR ORDER SELECT SEMI SUM TRUE ALL UNION WHERE"

const allSigns = "( ) , . * + - / % = < > <= >= <>"

func word(s string) api.Token { return api.Token{Kind: api.TokWord, S: s} }
func key(s string) api.Token  { return api.Token{Kind: api.TokKey, S: s} }
func sign(s string) api.Token { return api.Token{Kind: api.TokSign, S: s} }
func text(s string) api.Token { return api.Token{Kind: api.TokText, S: s} }

func num(s string, n int) api.Token { return api.Token{Kind: api.TokNum, S: s, N: n} }

// at is a token that begins at a place.
func at(place int, t api.Token) api.Token {
	t.At = place
	return t
}

// unplaced is tokens whose places are left out.
func unplaced(l []api.Token) []api.Token {
	l = slices.Clone(l)
	for i := range l {
		l[i].At = 0
	}
	return l
}

// wantTokens is that a text has just these tokens, places left out, and then the end, where it ends.
func wantTokens(t *testing.T, s string, want ...api.Token) {
	t.Helper()
	got, place, e := lex.All(s)
	want = append(slices.Clone(want), api.Token{Kind: api.TokEnd})
	if e != api.OK || place != len(s) || !slices.Equal(unplaced(got), want) || got[len(got)-1].At != len(s) {
		t.Errorf("All(%.99q) = %v, %d, %d, not %v", s, got, place, e, want)
	}
}

func wantErr(t *testing.T, s string, place int, want api.Errno) {
	t.Helper()
	got, n, e := lex.All(s)
	if len(got) != 0 || n != place || e != want {
		t.Errorf("All(%.99q) = %.99v, %d, %d, not %d, %d", s, got, n, e, place, want)
	}
}

// P9.1, example 1, and each token with its place.
func TestAll(t *testing.T) {
	wantTokens(t, "a<=b", word("a"), sign("<="), word("b"))
	s := "SELECT t.a, 'it''s' -- all\n\tFROM\r\nt WHERE a<>007"
	want := []api.Token{
		at(0, key("SELECT")), at(7, word("t")), at(8, sign(".")), at(9, word("a")), at(10, sign(",")), at(12, text("it's")),
		at(28, key("FROM")), at(34, word("t")), at(36, key("WHERE")), at(42, word("a")), at(43, sign("<>")), at(45, num("007", 7)),
		at(48, api.Token{Kind: api.TokEnd}),
	}
	if got, place, e := lex.All(s); e != api.OK || place != 48 || !slices.Equal(got, want) {
		t.Errorf("%v, %d, %d", got, place, e)
	}
}

// P9.1: what has no token but the end.
func TestBlanksAlone(t *testing.T) {
	for _, s := range []string{"", " ", "\t", "\n", "\r", " \t\r\n ", "--", "---", "-- a ' ! \x00 é", "--\n", "--a\n--b", " -- a\r\n\t-- b\n", strings.Repeat(" ", api.MaxQuery)} {
		wantTokens(t, s)
	}
}

// P9.1: a remark ends at a newline alone, or where the text ends; one minus is a sign.
func TestRemarks(t *testing.T) {
	wantTokens(t, "a--b", word("a"))
	wantTokens(t, "a--b\nc", word("a"), word("c"))
	wantTokens(t, "a-- b\rc\td", word("a"))
	wantTokens(t, "1--2\n3", num("1", 1), num("3", 3))
	wantTokens(t, "'a'--'\n'b'", text("a"), text("b"))
	wantTokens(t, "<--\n=", sign("<"), sign("="))
	wantTokens(t, "(---\n)", sign("("), sign(")"))
	wantTokens(t, "a-b", word("a"), sign("-"), word("b"))
	wantTokens(t, "a- -b -", word("a"), sign("-"), sign("-"), word("b"), sign("-"))
	wantTokens(t, "AS--\n--\nt", key("AS"), word("t"))
}

// P9.1: the text's length goes ahead of all else.
func TestQueryLength(t *testing.T) {
	blanks := strings.Repeat(" ", api.MaxQuery-1)
	wantTokens(t, blanks+"a", word("a"))
	wantTokens(t, "a--"+strings.Repeat("-", api.MaxQuery-3), word("a"))
	wantErr(t, blanks+"a ", 0, api.ErrLong)
	wantErr(t, blanks+"  ", 0, api.ErrLong)
	wantErr(t, blanks+"a!", 0, api.ErrLong)
	wantErr(t, "!"+blanks, 0, api.ErrLex)
	wantErr(t, "! "+blanks, 0, api.ErrLong)
	wantErr(t, blanks+"!", api.MaxQuery-1, api.ErrLex)
	wantErr(t, strings.Repeat("a ", 1<<20), 0, api.ErrLong)
}

// P9.1: words, and how long they may be.
func TestWords(t *testing.T) {
	long := "_" + strings.Repeat("aZ9_", 6)[:api.MaxName-1]
	for _, s := range []string{"a", "z", "A", "Z", "_", "__", "a1", "_1", "a_b", "_9Z", "selects", "SELECTS", "SELECT_", "_SELECT", "AL", "ALLS", "WHER", "x0", "DROP", long} {
		wantTokens(t, s, word(s))
		wantTokens(t, s+".", word(s), sign("."))
		if !lex.Name(s) || lex.Key(s) {
			t.Errorf("%s: Name %t, Key %t", s, lex.Name(s), lex.Key(s))
		}
	}
	for _, s := range []string{long + "a", long + "_", long + "1", strings.Repeat("a", 1000)} {
		wantErr(t, s, 0, api.ErrLex)
		wantErr(t, "a, "+s+" b", 3, api.ErrLex)
		if lex.Name(s) || lex.Key(s) {
			t.Errorf("%s: Name %t, Key %t", s, lex.Name(s), lex.Key(s))
		}
	}
	for _, s := range []string{"", " ", "a ", " a", "a b", "a--", "a.b", "a,", "1", "1a", "'a'", "=", "*", "é", "aé", "a\x00", "a'", "\n", "a\n", "--a"} {
		if lex.Name(s) || lex.Key(s) {
			t.Errorf("%q: Name %t, Key %t", s, lex.Name(s), lex.Key(s))
		}
	}
}

// P9.1: reserved words, in these letters alone.
func TestKeys(t *testing.T) {
	want := strings.Fields(reserved)
	slices.Sort(want)
	if got := lex.Keys(); !slices.Equal(got, want) {
		t.Error(got)
	}
	for _, s := range want {
		wantTokens(t, s, key(s))
		if !lex.Key(s) || lex.Name(s) {
			t.Errorf("%s: Key %t, Name %t", s, lex.Key(s), lex.Name(s))
		}
		for _, other := range []string{strings.ToLower(s), s[:1] + strings.ToLower(s[1:]), s + "_", s + "0", "_" + s} {
			wantTokens(t, other, word(other))
			if lex.Key(other) || !lex.Name(other) {
				t.Errorf("%s: Key %t, Name %t", other, lex.Key(other), lex.Name(other))
			}
		}
		if lex.Key(s+" ") || lex.Name(s+" ") || lex.Key(" "+s) {
			t.Errorf("%s with a blank", s)
		}
	}
	l := lex.Keys()
	clear(l)
	clear(append(l, "x")[:cap(l)])
	if !slices.Equal(lex.Keys(), want) || !lex.Key("ALL") {
		t.Error("memory is shared")
	}
}

// P9.1: numbers up to MaxInt, which end where a letter could not stand.
func TestNums(t *testing.T) {
	zeros := strings.Repeat("0", 100)
	for s, n := range map[string]int{"0": 0, "7": 7, "00": 0, "007": 7, "1234567890": 1234567890, "9007199254740991": api.MaxInt, zeros: 0, zeros + "9007199254740991": api.MaxInt} {
		wantTokens(t, s, num(s, n))
		wantTokens(t, s+".5", num(s, n), sign("."), num("5", 5))
		wantTokens(t, s+"'a'", num(s, n), text("a"))
		wantTokens(t, s+"--a", num(s, n))
		wantTokens(t, "-"+s+")", sign("-"), num(s, n), sign(")"))
		for _, letter := range []string{"a", "z", "A", "Z", "_", "e5", "AND"} {
			wantErr(t, s+letter, 0, api.ErrLex)
			wantErr(t, "a = "+s+letter+" 'b'", 4, api.ErrLex)
		}
		wantErr(t, s+"é", len(s), api.ErrLex)
		wantErr(t, s+"!", len(s), api.ErrLex)
	}
	for _, s := range []string{"9007199254740992", "9007199254740999", "10000000000000000", "9223372036854775808", "18446744073709551616", "18446744073709551617", zeros + "9007199254740992", strings.Repeat("9", 1000)} {
		wantErr(t, s, 0, api.ErrLex)
		wantErr(t, "\n- "+s+"!", 3, api.ErrLex)
	}
}

// P9.1: texts, what a doubled quote stands for, and how long they may be.
func TestTexts(t *testing.T) {
	long, quotes := strings.Repeat("x", api.MaxText), strings.Repeat("''", api.MaxText)
	for s, want := range map[string]string{
		"''": "", "'a'": "a", "''''": "'", "''''''": "''", "'it''s'": "it's", "'''a'": "'a", "'a'''": "a'", "'a''''b'": "a''b",
		"'a\nb'": "a\nb", "'\r'": "\r", "'-- a'": "-- a", "'--'": "--", "'a--\n'": "a--\n", "'SELECT'": "SELECT", "'é\xff\x00'": "é\xff\x00", "' '": " ", "'\"'": "\"",
		"'" + long + "'": long, "'" + quotes + "'": quotes[:api.MaxText], "'''" + long[1:] + "'": "'" + long[1:], "'" + long[1:] + "'''": long[1:] + "'",
	} {
		wantTokens(t, s, text(want))
		wantTokens(t, "a"+s+"b", word("a"), text(want), word("b"))
		wantTokens(t, "("+s+" "+s, sign("("), text(want), text(want))
		wantTokens(t, s+"1--'", text(want), num("1", 1))
	}
	for _, s := range []string{
		"'", "'a", "'a ", "'''", "'a''", "'''''", "'a\n", "'--", "'a''b", "' -- '' ", "'" + long, "'" + quotes,
		"'x" + long + "'", "'" + quotes + "'''", "'" + quotes + "x'", "'" + long + "'''", "'" + strings.Repeat("x", 1000) + "'",
	} {
		wantErr(t, s, 0, api.ErrLex)
		wantErr(t, "a 'b' "+s, 6, api.ErrLex)
	}
	wantErr(t, "'a' 'b", 4, api.ErrLex)
	wantErr(t, "a -- '\n'", 7, api.ErrLex)
}

// P9.1: each sign, and the longer ones first.
func TestSigns(t *testing.T) {
	for _, s := range strings.Fields(allSigns) {
		wantTokens(t, s, sign(s))
		wantTokens(t, "a"+s+"1", word("a"), sign(s), num("1", 1))
		wantTokens(t, s+"'a' "+s, sign(s), text("a"), sign(s))
	}
	wantTokens(t, "<=>", sign("<="), sign(">"))
	wantTokens(t, "<>=", sign("<>"), sign("="))
	wantTokens(t, ">=<=<>", sign(">="), sign("<="), sign("<>"))
	wantTokens(t, "=<=>==", sign("="), sign("<="), sign(">="), sign("="))
	wantTokens(t, "><<<>>", sign(">"), sign("<"), sign("<"), sign("<>"), sign(">"))
	wantTokens(t, "< = > =< >", sign("<"), sign("="), sign(">"), sign("="), sign("<"), sign(">"))
	wantTokens(t, "<--\n=", sign("<"), sign("="))
	wantTokens(t, "().*,+/%", sign("("), sign(")"), sign("."), sign("*"), sign(","), sign("+"), sign("/"), sign("%"))
}

// P9.1: each byte alone, and behind a token: most begin none.
func TestBytes(t *testing.T) {
	for b := range 256 {
		s := string([]byte{byte(b)})
		blank := strings.Contains(" \t\n\r", s)
		ordinary := strings.Contains("_(),.*+-/%=<>", s) || "a" <= s && s <= "z" || "A" <= s && s <= "Z" || "0" <= s && s <= "9"
		_, _, e := lex.All(s)
		if got := e == api.OK; got != (blank || ordinary) {
			t.Errorf("%q: %d", s, e)
		}
		if l, _, _ := lex.All("(" + s + ")"); blank && len(l) != 3 {
			t.Errorf("%q is no blank", s)
		}
		if !blank && !ordinary {
			wantErr(t, s, 0, api.ErrLex)
			wantErr(t, "a "+s+"b", 2, api.ErrLex)
		}
	}
}

// P9.1: how many tokens there may be, and what goes first.
func TestTokenCount(t *testing.T) {
	l := strings.Repeat("a,", api.MaxTokens/2)
	most := l[1:] // with the end there are MaxTokens
	got, place, e := lex.All(most)
	if e != api.OK || place != len(most) || len(got) != api.MaxTokens || got[len(got)-1] != at(len(most), api.Token{Kind: api.TokEnd}) {
		t.Error(len(got), place, e)
	}
	for _, s := range []string{most + " ", most + " -- a", most + "\n--\n"} {
		if got, place, e := lex.All(s); e != api.OK || place != len(s) || len(got) != api.MaxTokens {
			t.Error(len(got), place, e)
		}
	}
	// the end is the one too many; then another token is, whatever stands behind
	wantErr(t, l, len(l), api.ErrLong)
	wantErr(t, l+" -- a", len(l)+5, api.ErrLong)
	wantErr(t, l+"a", len(l), api.ErrLong)
	wantErr(t, l+" a!", len(l)+1, api.ErrLong)
	wantErr(t, l+" 'a' ! '", len(l)+1, api.ErrLong)
	wantErr(t, strings.Repeat("(", api.MaxQuery), api.MaxTokens, api.ErrLong)
	// what is no token goes first, if it stands ahead, or there
	wantErr(t, l+"!", len(l), api.ErrLex)
	wantErr(t, l+" 1a", len(l)+1, api.ErrLex)
	wantErr(t, most+"!"+l, len(most), api.ErrLex)
	wantErr(t, "!"+l+l, 0, api.ErrLex)
	wantErr(t, "'"+l+l, 0, api.ErrLex)
	wantErr(t, "a ! '", 2, api.ErrLex)
}

// P9.1: texts of tokens, even of such as are none.
func TestShow(t *testing.T) {
	end := api.Token{Kind: api.TokEnd}
	for _, x := range []struct {
		want string
		l    []api.Token
	}{
		{"", nil}, {"", []api.Token{}}, {"", []api.Token{end}},
		{"a", []api.Token{at(5, word("a"))}},
		{"a ", []api.Token{word("a"), end}},
		{"a <= b ", []api.Token{at(0, word("a")), at(1, sign("<=")), at(3, word("b")), at(4, end)}},
		{"SELECT a , 007 FROM 'it''s' - - ( )", []api.Token{key("SELECT"), word("a"), sign(","), num("007", 7), key("FROM"), text("it's"), sign("-"), sign("-"), sign("("), sign(")")}},
		{"'' '''' 'a\n-- b'", []api.Token{text(""), text("'"), text("a\n-- b")}},
		{"a  b", []api.Token{word("a"), end, word("b")}},
		{" ", []api.Token{end, {Kind: api.TokEnd, S: "x", N: 3}}},
	} {
		if got := lex.Show(x.l); got != x.want {
			t.Errorf("Show(%v) = %q, not %q", x.l, got, x.want)
		}
	}
	l := []api.Token{word("a"), text("'")}
	if lex.Show(l[:1]) != "a" || !slices.Equal(l, []api.Token{word("a"), text("'")}) {
		t.Error("what is handed in is changed")
	}
}

// R2, R3: fields that a kind does not name are zero, lists are apart.
func TestFields(t *testing.T) {
	a, _, _ := lex.All("a 1 'b' ( AND")
	b, _, _ := lex.All("a 1 'b' ( AND")
	for i, x := range a {
		if x.Kind != api.TokNum && x.N != 0 || x.Kind == api.TokEnd && x.S != "" {
			t.Errorf("%v", a[i])
		}
	}
	clear(a[:cap(a)])
	if c, _, _ := lex.All("a 1 'b' ( AND"); !slices.Equal(b, c) {
		t.Error("memory is shared")
	}
}

// drawn is a token that may be.
func drawn(r *rand.Rand) api.Token {
	letters := func(most int, from string) string {
		b := make([]byte, r.Intn(most+1))
		for i := range b {
			b[i] = from[r.Intn(len(from))]
		}
		return string(b)
	}
	keys := strings.Fields(reserved)
	signs := strings.Fields(allSigns)
	switch r.Intn(5) {
	case 0:
		return word("_" + letters(api.MaxName-1, "azAZ_09"))
	case 1:
		return key(keys[r.Intn(len(keys))])
	case 2:
		n := r.Intn(api.MaxInt>>r.Intn(53) + 1)
		return num(letters(3, "0")+strconv.Itoa(n), n)
	case 3:
		return text(letters(api.MaxText, "a'- \n\xff"))
	}
	return sign(signs[r.Intn(len(signs))])
}

// P9.2: blanks and remarks change places alone; what is shown is cut into the same tokens.
func TestShown(t *testing.T) {
	r := rand.New(rand.NewSource(1))
	gaps := []string{" ", "\t", "\n", "\r\n", " \n \t", "--\n", "-- it's\n", " -- !\n--b\n  "}
	for range 3000 {
		var want []api.Token
		s := ""
		for range r.Intn(60) {
			gap := gaps[r.Intn(len(gaps))]
			if strings.HasSuffix(s, "-") {
				gap = " " + gap // or the sign would begin the remark
			}
			s += gap
			x := drawn(r)
			want = append(want, at(len(s), x))
			s += lex.Show([]api.Token{x})
		}
		s += " " + gaps[r.Intn(len(gaps))]
		want = append(want, at(len(s), api.Token{Kind: api.TokEnd}))
		got, place, e := lex.All(s)
		if e != api.OK || place != len(s) || !slices.Equal(got, want) {
			t.Fatalf("All(%q) = %v, %d, %d", s, got, place, e)
		}
		again, _, e := lex.All(lex.Show(got))
		if e != api.OK || !slices.Equal(unplaced(again), unplaced(want)) {
			t.Fatalf("%q: %v, %d", lex.Show(got), again, e)
		}
	}
}

var (
	modelSkip = regexp.MustCompile(`^(?:[ \t\n\r]|--[^\n]*)*`)
	modelWord = regexp.MustCompile(`^[A-Za-z_][A-Za-z_0-9]*`)
	modelNum  = regexp.MustCompile(`^[0-9]+`)
	modelText = regexp.MustCompile(`^'(?:''|[^'])*'`)
	modelSign = regexp.MustCompile(`^(?:<=|>=|<>|[(),.*+\-/%=<>])`)
)

// model is what All answers of a short text, by patterns.
func model(s string) ([]api.Token, int, api.Errno) {
	var l []api.Token
	place := 0
	for {
		place += len(modelSkip.FindString(s[place:]))
		rest := s[place:]
		if rest == "" {
			return append(l, at(place, api.Token{Kind: api.TokEnd})), place, api.OK
		}
		size := 0
		if m := modelWord.FindString(rest); m != "" && len(m) <= api.MaxName {
			size = len(m)
			if slices.Contains(strings.Fields(reserved), m) {
				l = append(l, at(place, key(m)))
			} else {
				l = append(l, at(place, word(m)))
			}
		} else if m := modelNum.FindString(rest); m != "" && !modelWord.MatchString(rest[len(m):]) {
			if n, err := strconv.Atoi(m); err == nil && n <= api.MaxInt {
				size = len(m)
				l = append(l, at(place, num(m, n)))
			}
		} else if m := modelText.FindString(rest); m != "" && !strings.HasPrefix(rest[len(m):], "'") {
			if said := strings.ReplaceAll(m[1:len(m)-1], "''", "'"); len(said) <= api.MaxText {
				size = len(m)
				l = append(l, at(place, text(said)))
			}
		} else if m := modelSign.FindString(rest); m != "" {
			size = len(m)
			l = append(l, at(place, sign(m)))
		}
		if size == 0 {
			return nil, place, api.ErrLex
		}
		place += size
	}
}

func checkModel(t *testing.T, s string) {
	t.Helper()
	got, place, e := lex.All(s)
	want, wantPlace, wantE := model(s)
	if !slices.Equal(got, want) || place != wantPlace || e != wantE {
		t.Fatalf("All(%q) = %v, %d, %d, not %v, %d, %d", s, got, place, e, want, wantPlace, wantE)
	}
	if e == api.OK {
		again, _, e := lex.All(lex.Show(got))
		if e != api.OK || !slices.Equal(unplaced(again), unplaced(got)) {
			t.Fatalf("%q, shown %q: %v, %d", s, lex.Show(got), again, e)
		}
	}
}

// P9.1, P9.2: all short texts of some bytes, held against patterns.
func TestShortTexts(t *testing.T) {
	const bytes = "a_1'-<>= \n!"
	var try func(s string, more int)
	try = func(s string, more int) {
		checkModel(t, s)
		for i := 0; i < len(bytes) && more > 0; i++ {
			try(s+bytes[i:i+1], more-1)
		}
	}
	try("", 4)
}

// P9.1, P9.2: any text.
func FuzzAll(f *testing.F) {
	for _, s := range []string{"", "a<=b", "SELECT 'it''s' -- x\n FROM t", "9007199254740992", "é", "'a''"} {
		f.Add(s)
	}
	f.Fuzz(func(t *testing.T, s string) {
		if len(s) < 1000 {
			checkModel(t, s)
		}
	})
}
