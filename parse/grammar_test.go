package parse

import (
	"strings"
	"testing"

	"calliper/api"
	"calliper/lex"
	"calliper/typ"
)

// grammar is the chapter's, letter by letter: a second way to tell which token cannot stand where it stands.
const grammar = `
program = { "global" name ":" type [ "[" num "]" ] [ "=" [ "-" ] num ] ";" | func }
func    = "fn" name "(" [ param { "," param } ] ")" [ ":" type ] { clause } block
param   = name ":" type [ "[" num "]" ]      block = "{" { stmt } "}"
clause  = ( "requires" | "ensures" ) cond ";" | "assigns" names ";"
names   = "nothing" | name { "," name }
stmt    = "let" name ":" type ( "=" expr | "[" num "]" ) ";" | name [ "[" expr "]" ] "=" expr ";"
        | "call" [ name "=" ] name "(" [ expr { "," expr } ] ")" ";" | "if" cond block [ "else" block ]
        | "while" cond { "invariant" cond ";" } [ "assigns" names ";" ] block | "break" ";" | "continue" ";"
        | "return" [ expr ] ";" | "assert" cond ";" | "input" name ";"
cond    = both { "or" both }      both = one { "and" one }      one = "not" one | "[" cond "]" | expr rel expr
rel     = "==" | "!=" | "<" | "<=" | ">" | ">="
expr    = shift { ( "&" | "|" | "^" ) shift }      shift = sum { ( "<<" | ">>" ) sum }
sum     = term { ( "+" | "-" ) term }      term = unary { ( "*" | "/" | "%" ) unary }
unary   = ( "-" | "~" ) unary | num | name [ "[" expr "]" ] | "old" "(" expr ")" | "result" | type "(" expr ")" | "(" expr ")"
`

// A book has the grammar as plain rules: of each left side its right sides. What is quoted, and name, num, type, are tokens.
type book map[string][][]string

func newBook() book {
	b := book{}
	words := strings.Fields(grammar)
	for i := 0; i < len(words); {
		left := words[i]
		i += 2
		end := i
		for end < len(words) && (end+1 == len(words) || words[end+1] != "=") {
			end++
		}
		b[left] = b.choice(words[i:end])
		i = end
	}
	return b
}

// choice is the right sides that stand between the bars of words.
func (b book) choice(words []string) [][]string {
	list := [][]string{nil}
	for i := 0; i < len(words); i++ {
		last := len(list) - 1
		switch w := words[i]; w {
		case "|":
			list = append(list, nil)
		case "(", "[", "{":
			end := match(words, i)
			list[last] = append(list[last], b.group(w, words[i+1:end]))
			i = end
		default:
			list[last] = append(list[last], w)
		}
	}
	return list
}

// group is a new left side for what stands in brackets.
func (b book) group(open string, words []string) string {
	left := open + strings.Join(words, " ")
	rights := b.choice(words)
	if open == "{" {
		for i := range rights {
			rights[i] = append(rights[i], left)
		}
	}
	if open != "(" {
		rights = append(rights, nil)
	}
	b[left] = rights
	return left
}

func match(words []string, i int) int {
	depth := 0
	for ; ; i++ {
		switch words[i] {
		case "(", "[", "{":
			depth++
		case ")", "]", "}":
			depth--
		}
		if depth == 0 {
			return i
		}
	}
}

// An item is a right side of a rule, read up to a dot, from a place of the text on.
type item struct {
	left      string
	right     int
	dot, from int
}

// chart is Earley's: of each place the items that may be there.
type chart struct {
	b    book
	sets [][]item
}

func newChart(b book, start string) *chart {
	b["start"] = [][]string{{start}}
	c := &chart{b: b, sets: [][]item{{{left: "start"}}}}
	c.close()
	return c
}

func (c *chart) ahead(i item) string {
	if r := c.b[i.left][i.right]; i.dot < len(r) {
		return r[i.dot]
	}
	return ""
}

// close puts in all that follows from the items of the last set.
func (c *chart) close() {
	n := len(c.sets) - 1
	seen := map[item]int{}
	empty := map[string]int{}
	put := func(i item) {
		if seen[i] == 0 {
			seen[i] = 1
			c.sets[n] = append(c.sets[n], i)
		}
	}
	first := c.sets[n]
	c.sets[n] = nil
	for _, i := range first {
		put(i)
	}
	for k := 0; k < len(c.sets[n]); k++ {
		i := c.sets[n][k]
		next := c.ahead(i)
		switch {
		case next == "":
			if i.from == n {
				empty[i.left] = 1
			}
			for _, j := range c.sets[i.from] {
				if c.ahead(j) == i.left {
					j.dot++
					put(j)
				}
			}
		case c.b[next] != nil:
			for r := range c.b[next] {
				put(item{left: next, right: r, from: n})
			}
			if empty[next] > 0 {
				i.dot++
				put(i)
			}
		}
	}
}

// step goes on over a token; false: it cannot stand there.
func (c *chart) step(token string) bool {
	n := len(c.sets) - 1
	var l []item
	for _, i := range c.sets[n] {
		if c.ahead(i) == token {
			i.dot++
			l = append(l, i)
		}
	}
	if l == nil {
		return false
	}
	c.sets = append(c.sets, l)
	c.close()
	return true
}

func (c *chart) done() bool {
	for _, i := range c.sets[len(c.sets)-1] {
		if i == (item{left: "start", dot: 1}) {
			return true
		}
	}
	return false
}

// may is the tokens that can stand next, each once, in the order of the items.
func (c *chart) may() []string {
	var l []string
	seen := map[string]int{}
	for _, i := range c.sets[len(c.sets)-1] {
		if a := c.ahead(i); a != "" && c.b[a] == nil && seen[a] == 0 {
			seen[a] = 1
			l = append(l, a)
		}
	}
	return l
}

// class is a token as the grammar calls it.
func class(t api.Token) string {
	switch {
	case t.Kind == api.TokName:
		return "name"
	case t.Kind == api.TokNum:
		return "num"
	case typ.Read(t.Text) != 0:
		return "type"
	}
	return `"` + t.Text + `"`
}

// judge is the place of the first token that cannot stand where it stands; -1: there is none.
func judge(b book, start, s string) int {
	c := newChart(b, start)
	list, _, _ := lex.Lex(s)
	for _, t := range list[:len(list)-1] {
		if !c.step(class(t)) {
			return t.At
		}
	}
	if !c.done() {
		return len(s)
	}
	return -1
}

// dice are the same at each run of the tests.
type dice uint32

func (d *dice) roll(n int) int {
	*d = *d*1664525 + 1013904223
	return int(*d>>8) % n
}

// spell is a token of a class.
func spell(d *dice, class string) string {
	switch class {
	case "name":
		return []string{"a", "x", "longer_name"}[d.roll(3)]
	case "num":
		return []string{"0", "7", "255u"}[d.roll(3)]
	case "type":
		return []string{"i8", "u8", "i16", "u16", "i32", "u32"}[d.roll(6)]
	}
	return strings.Trim(class, `"`)
}

func allTokens() []string {
	return strings.Fields("global fn requires ensures assigns nothing let call if else while invariant break continue return assert input old result not and or i8 u32 ( ) { } [ ] , ; : = == != < <= > >= << >> + - * / % & | ^ ~ x 7 1u")
}

// walkText is a text of tokens that can stand where they stand, but for a slip now and then.
func walkText(d *dice, b book, start string, n, slip int) string {
	c := newChart(b, start)
	s := ""
	for range n {
		l := c.may()
		if len(l) == 0 {
			break
		}
		next := l[d.roll(len(l))]
		s += spell(d, next) + " "
		c.step(next)
		if d.roll(slip) == 0 {
			s += allTokens()[d.roll(len(allTokens()))] + " "
		}
	}
	return s
}

func compare(t *testing.T, b book, start, s string) {
	t.Helper()
	var e api.Errno
	var at int
	if start == "program" {
		_, e, at = Program(s)
	} else {
		_, e, at = Cond(s)
	}
	switch want := judge(b, start, s); {
	case want < 0 && e != api.OK && e != api.ErrDeep:
		t.Errorf("3.1: %s %q: error %d at %d, though the grammar has it", start, s, e, at)
	case want >= 0 && (e != api.ErrSyntax || at != want):
		t.Errorf("3.1: %s %q: error %d at %d, not ErrSyntax at %d", start, s, e, at, want)
	}
}

func TestWalksOverTheGrammar(t *testing.T) {
	b := newBook()
	d := dice(7)
	for i := range 3000 {
		compare(t, b, "program", walkText(&d, b, "program", 1+i%60, 30))
		compare(t, b, "cond", walkText(&d, b, "cond", 1+i%25, 20))
	}
}

func TestShortConditions(t *testing.T) {
	b := newBook()
	tokens := strings.Fields("x 1 result old i8 ( ) [ ] not and - < ; { =")
	var grow func(s string, n int)
	grow = func(s string, n int) {
		compare(t, b, "cond", s)
		// What cannot be gone on with tells nothing new when it is longer.
		if at := judge(b, "cond", s); n == 0 || at >= 0 && at < len(s) {
			return
		}
		for _, w := range tokens {
			grow(s+w+" ", n-1)
		}
	}
	grow("", 5)
}

// Each token of a right program, put out, doubled, or turned into another.
func TestEachTokenTurned(t *testing.T) {
	b := newBook()
	list, _, _ := lex.Lex(rich)
	list = list[:len(list)-1]
	compare(t, b, "program", rich)
	for i, k := range list {
		head, tail := rich[:k.At], rich[k.At+len(k.Text):]
		compare(t, b, "program", head+" "+tail)
		compare(t, b, "program", head+k.Text+" "+k.Text+" "+tail)
		compare(t, b, "program", head)
		other := allTokens()[i%len(allTokens())]
		compare(t, b, "program", head+" "+other+" "+tail)
	}
}
