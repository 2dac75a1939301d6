package lex

import (
	"errors"
	"fmt"
	"regexp"
	"slices"
	"strconv"
	"strings"
	"testing"

	"calliper/api"
)

func tok(kind int, text string, at int) api.Token {
	return api.Token{Kind: kind, Text: text, At: at}
}

func end(at int) api.Token {
	return tok(api.TokEnd, "", at)
}

// keys are written out here too, so that no slip of the package is shared by its tests.
func keys() []string {
	return strings.Fields("global fn requires ensures assigns nothing let call if else while invariant break continue return assert input old result not and or i8 u8 i16 u16 i32 u32")
}

func allSigns() []string {
	return strings.Fields("( ) { } [ ] , ; : = == != < <= > >= << >> + - * / % & | ^ ~")
}

func wantTokens(t *testing.T, s string, want ...api.Token) {
	t.Helper()
	got, e, at := Lex(s)
	if e != api.OK || at != 0 || !slices.Equal(got, want) {
		t.Errorf("2.1: Lex(%.60q) = %v %d %d, not %v", s, got, e, at, want)
	}
}

func wantError(t *testing.T, s string, e api.Errno, at int) {
	t.Helper()
	list, gotE, gotAt := Lex(s)
	if len(list) != 0 || gotE != e || gotAt != at {
		t.Errorf("2.1: Lex(%.60q) = %v %d at %d, not error %d at %d", s, list, gotE, gotAt, e, at)
	}
}

func TestLexOfTheExample(t *testing.T) {
	wantTokens(t, "x=1u;", tok(api.TokName, "x", 0), tok(api.TokSign, "=", 1), tok(api.TokNum, "1u", 2), tok(api.TokSign, ";", 4), end(5))
}

func TestLexOfAProgram(t *testing.T) {
	wantTokens(t, "fn f(a: u8[4])\n{ a[0]=a[1]<<2; } # done",
		tok(api.TokWord, "fn", 0), tok(api.TokName, "f", 3), tok(api.TokSign, "(", 4),
		tok(api.TokName, "a", 5), tok(api.TokSign, ":", 6), tok(api.TokWord, "u8", 8),
		tok(api.TokSign, "[", 10), tok(api.TokNum, "4", 11), tok(api.TokSign, "]", 12), tok(api.TokSign, ")", 13),
		tok(api.TokSign, "{", 15), tok(api.TokName, "a", 17), tok(api.TokSign, "[", 18), tok(api.TokNum, "0", 19),
		tok(api.TokSign, "]", 20), tok(api.TokSign, "=", 21), tok(api.TokName, "a", 22), tok(api.TokSign, "[", 23),
		tok(api.TokNum, "1", 24), tok(api.TokSign, "]", 25), tok(api.TokSign, "<<", 26), tok(api.TokNum, "2", 28),
		tok(api.TokSign, ";", 29), tok(api.TokSign, "}", 31), end(39))
}

func TestWhatPartsTokens(t *testing.T) {
	for _, gap := range []string{" ", "\t", "\n", "\r", "\r\n", " \t\r\n ", "#\n", "# b c\n", "##\n", " # \x00\xff A ! é 01 99999999999\n\t", "#1\n#2\n"} {
		n := len(gap)
		wantTokens(t, "a"+gap+"b", tok(api.TokName, "a", 0), tok(api.TokName, "b", n+1), end(n+2))
		wantTokens(t, "1"+gap+"2", tok(api.TokNum, "1", 0), tok(api.TokNum, "2", n+1), end(n+2))
		wantTokens(t, "<"+gap+"<", tok(api.TokSign, "<", 0), tok(api.TokSign, "<", n+1), end(n+2))
		wantTokens(t, gap, end(n))
		wantTokens(t, gap+"a"+gap, tok(api.TokName, "a", n), end(2*n+1))
	}
}

func TestRemarkEnds(t *testing.T) {
	wantTokens(t, "#", end(1))
	wantTokens(t, "# a b", end(5))
	wantTokens(t, "a#b", tok(api.TokName, "a", 0), end(3))
	wantTokens(t, "7#b", tok(api.TokNum, "7", 0), end(3))
	wantTokens(t, "#a\nb", tok(api.TokName, "b", 3), end(4))
	// A line ends by its byte 10; byte 13 does not end it.
	wantTokens(t, "#a\rb", end(4))
	wantTokens(t, "#a\rb\nc", tok(api.TokName, "c", 5), end(6))
}

func TestTheLastTokensPlace(t *testing.T) {
	wantTokens(t, "", end(0))
	wantTokens(t, "a", tok(api.TokName, "a", 0), end(1))
	wantTokens(t, "a \n", tok(api.TokName, "a", 0), end(3))
	wantTokens(t, "a # b\n", tok(api.TokName, "a", 0), end(6))
}

func TestKeyWords(t *testing.T) {
	for _, k := range keys() {
		wantTokens(t, k, tok(api.TokWord, k, 0), end(len(k)))
		wantTokens(t, " "+k+"(", tok(api.TokWord, k, 1), tok(api.TokSign, "(", len(k)+1), end(len(k)+2))
		for _, s := range []string{k + "x", k + "_", k + "0", "x" + k, k + k, k[:1] + "_" + k[1:]} {
			wantTokens(t, s, tok(api.TokName, s, 0), end(len(s)))
		}
	}
}

func TestNames(t *testing.T) {
	for _, s := range []string{"a", "z", "az", "a_", "a_b", "a__", "a0", "a9z", "u", "uu", "i", "i9", "u64", "i08", "f_1", "o", "ol", "true", "int", "main"} {
		wantTokens(t, s, tok(api.TokName, s, 0), end(len(s)))
	}
}

func TestLengthOfNames(t *testing.T) {
	for _, tail := range []string{"a", "z", "0", "_"} {
		most := "b" + strings.Repeat(tail, api.MaxName-1)
		wantTokens(t, most, tok(api.TokName, most, 0), end(api.MaxName))
		wantTokens(t, most+" "+most, tok(api.TokName, most, 0), tok(api.TokName, most, api.MaxName+1), end(2*api.MaxName+1))
		wantError(t, most+tail, api.ErrLong, 0)
		wantError(t, "x=\n"+most+tail+";", api.ErrLong, 3)
	}
	wantError(t, strings.Repeat("b", api.MaxText), api.ErrLong, 0)
	wantError(t, "nothing"+strings.Repeat("_", api.MaxName), api.ErrLong, 0)
}

func TestSigns(t *testing.T) {
	for _, s := range allSigns() {
		n := len(s)
		wantTokens(t, s, tok(api.TokSign, s, 0), end(n))
		wantTokens(t, "a"+s+"1", tok(api.TokName, "a", 0), tok(api.TokSign, s, 1), tok(api.TokNum, "1", n+1), end(n+2))
	}
}

func TestTheLongestSign(t *testing.T) {
	for s, parts := range map[string]string{
		"===": "== =", "====": "== ==", "<<=": "<< =", "<==": "<= =", "<<<": "<< <", ">>>": ">> >", ">>=": ">> =",
		">==": ">= =", "!==": "!= =", "=<": "= <", "=>": "= >", "<>": "< >", "><": "> <", "--": "- -", "++": "+ +",
		"&&": "& &", "||": "| |", "+=": "+ =", "~=": "~ =", "[]": "[ ]", "::": ": :", "<-": "< -", ">=>": ">= >",
	} {
		var want []api.Token
		at := 0
		for _, p := range strings.Fields(parts) {
			want = append(want, tok(api.TokSign, p, at))
			at += len(p)
		}
		wantTokens(t, s, append(want, end(at))...)
	}
}

func TestNumbersAmongTokens(t *testing.T) {
	for _, s := range []string{"0", "0u", "1", "9", "10", "100u", "2147483647", "2147483647u", "2147483648u", "4294967295u", "1000000000"} {
		wantTokens(t, s, tok(api.TokNum, s, 0), end(len(s)))
		wantTokens(t, " -"+s+"+", tok(api.TokSign, "-", 1), tok(api.TokNum, s, 2), tok(api.TokSign, "+", len(s)+2), end(len(s)+3))
	}
	wantTokens(t, "1 u", tok(api.TokNum, "1", 0), tok(api.TokName, "u", 2), end(3))
	wantTokens(t, "x1", tok(api.TokName, "x1", 0), end(2))
}

func TestNumbersTooGreat(t *testing.T) {
	for _, s := range []string{
		"2147483648", "4294967295", "4294967296", "4294967296u", "9999999999", "9999999999u",
		"10000000000", "10000000000u", "00000000000", "00000000001u", "01234567890", "18446744073709551616", "18446744073709551617u",
		strings.Repeat("0", 100), strings.Repeat("9", 100) + "u", strings.Repeat("1", api.MaxText),
	} {
		wantError(t, s, api.ErrLong, 0)
		if len(s) < api.MaxText {
			wantError(t, "\n"+s, api.ErrLong, 1)
		}
	}
}

func TestNumbersOfAWrongShape(t *testing.T) {
	for _, s := range []string{
		"00", "01", "00u", "07u", "0123456789", "0000000000", "0999999999u", "0123456789x",
		"5a", "5z", "5_", "5x5", "5i8", "5uu", "5u5", "5ua", "5u_", "0x1", "0uu", "0u0", "1e5", "1old",
		"2147483648ux", "2147483647x", "4294967295u0", "4294967295u_",
	} {
		wantError(t, s, api.ErrWord, 0)
		wantError(t, "x = "+s+";", api.ErrWord, 4)
	}
}

func TestTooGreatCountsAheadOfTheShape(t *testing.T) {
	for _, s := range []string{"2147483648x", "2147483648_", "4294967296u5", "4294967296uu", "99999999999x", "00000000000x", "00000000000u_"} {
		wantError(t, s, api.ErrLong, 0)
	}
}

func TestBytesThatBeginNoToken(t *testing.T) {
	for b := range 256 {
		s := string([]byte{byte(b)})
		one := b >= 'a' && b <= 'z' || b >= '0' && b <= '9' || b == '#' || slices.Contains([]string{" ", "\t", "\n", "\r"}, s) || slices.Contains(allSigns(), s)
		if _, e, at := Lex(s); one != (e == api.OK) || at != 0 {
			t.Errorf("2.1: byte %d: error %d at %d", b, e, at)
		}
		if !one {
			wantError(t, s, api.ErrWord, 0)
			wantError(t, "a "+s+" b", api.ErrWord, 2)
			wantError(t, "(1)"+s, api.ErrWord, 3)
		}
	}
	for _, s := range []string{"!", "! =", "!<", "_", "_a", "A", ".", "\"", "'", "$", "@", "?", "\\", "`", "é", "\v", "\f", "\x7f", "\u00a0", "\ufeff"} {
		wantError(t, ";"+s, api.ErrWord, 1)
	}
	// Letters are those from a to z: a capital ends a word, and a number too.
	wantError(t, "aB", api.ErrWord, 1)
	wantError(t, "5A", api.ErrWord, 1)
	wantError(t, "aé", api.ErrWord, 1)
}

func TestTheFirstErrorCounts(t *testing.T) {
	long := strings.Repeat("b", api.MaxName+1)
	wantError(t, "A 99999999999", api.ErrWord, 0)
	wantError(t, "99999999999 A", api.ErrLong, 0)
	wantError(t, "x "+long+" 01 !", api.ErrLong, 2)
	wantError(t, "x 01 "+long, api.ErrWord, 2)
	wantError(t, "x ! 01", api.ErrWord, 2)
	wantError(t, "# !\n x 5a ! 5000000000", api.ErrWord, 7)
	wantError(t, "x 5000000000 5a", api.ErrLong, 2)
}

func TestLengthOfTheText(t *testing.T) {
	wantTokens(t, strings.Repeat(" ", api.MaxText), end(api.MaxText))
	wantTokens(t, "#"+strings.Repeat("!", api.MaxText-1), end(api.MaxText))
	wantTokens(t, strings.Repeat(" ", api.MaxText-1)+"a", tok(api.TokName, "a", api.MaxText-1), end(api.MaxText))
	list, e, at := Lex(strings.Repeat("(", api.MaxText))
	if len(list) != api.MaxText+1 || e != api.OK || at != 0 || list[api.MaxText] != end(api.MaxText) {
		t.Errorf("2.1: a text full of signs: %d tokens, %d at %d", len(list), e, at)
	}
	wantError(t, strings.Repeat(" ", api.MaxText-1)+"A", api.ErrWord, api.MaxText-1)
	// That the text is too long counts ahead of whatever else is wrong with it.
	for _, s := range []string{" ", "a", "A", "!", "1", "0", "#", "(", "\xff"} {
		wantError(t, strings.Repeat(s, api.MaxText+1), api.ErrLong, api.MaxText)
		wantError(t, strings.Repeat(s, 1<<20), api.ErrLong, api.MaxText)
	}
	wantError(t, "A"+strings.Repeat(" ", api.MaxText), api.ErrLong, api.MaxText)
}

func TestAnswersAreNewMemory(t *testing.T) {
	first, _, _ := Lex("a = b;")
	for i := range first {
		first[i] = tok(9, "turned", 9)
	}
	_ = append(first[:1], first...)
	wantTokens(t, "a = b;", tok(api.TokName, "a", 0), tok(api.TokSign, "=", 2), tok(api.TokName, "b", 4), tok(api.TokSign, ";", 5), end(6))
}

func TestFaultsAreWrapped(t *testing.T) {
	for s, why := range map[string]error{"99999999999": errLong, "2147483648": errLong, "07": errWord, "5a": errWord} {
		next := reader("x " + s)
		if _, err := next(); err != nil {
			t.Fatalf("2.1: the token ahead of %q: %v", s, err)
		}
		_, err := next()
		var f fault
		if !errors.Is(err, why) || !errors.As(err, &f) || f.at != 2 || err.Error() != why.Error()+" at 2" {
			t.Errorf("2.1: of %q: %v, not %v at 2", s, err, why)
		}
	}
}

func wantNumber(t *testing.T, s string, v, k int, ok bool) {
	t.Helper()
	if gotV, gotK, gotOk := Number(s); gotV != v || gotK != k || gotOk != ok {
		t.Errorf("2.2: Number(%.60q) = %d %d %v, not %d %d %v", s, gotV, gotK, gotOk, v, k, ok)
	}
}

func TestNumber(t *testing.T) {
	for _, v := range []int{0, 1, 7, 9, 10, 11, 99, 100, 255, 65536, 1000000000, 2147483646, 2147483647} {
		wantNumber(t, strconv.Itoa(v), v, api.I32, true)
		wantNumber(t, strconv.Itoa(v)+"u", v, api.U32, true)
	}
	for _, v := range []int{2147483648, 2147483649, 4294967294, 4294967295} {
		wantNumber(t, strconv.Itoa(v), 0, 0, false)
		wantNumber(t, strconv.Itoa(v)+"u", v, api.U32, true)
	}
	for _, v := range []int{4294967296, 4294967297, 9999999999, 10000000000, 99999999999, 1 << 62} {
		wantNumber(t, strconv.Itoa(v), 0, 0, false)
		wantNumber(t, strconv.Itoa(v)+"u", 0, 0, false)
	}
}

func TestNumberOfNone(t *testing.T) {
	for _, s := range []string{
		"", "u", "uu", "00", "01", "00u", "07u", "0000000000", "0000000001", "00000000001", "0123456789u",
		"1uu", "u1", "1u1", "1U", "-1", "+1", "-0", "1 ", " 1", "1\n", "1 u", "1_0", "_1", "0x1", "1e3", "1.0", "a", "a1", "1a",
		"\x00", "1\x00", "\xff", "１", "٣", "1é", "99999999999999999999999u",
		"18446744073709551616", "18446744073709551617", "18446744073709551617u", strings.Repeat("0", 1000), strings.Repeat("9", 1<<20), strings.Repeat("u", 1000),
		"/", ":", "1/", "1:", ";", "nothing", "i32",
	} {
		wantNumber(t, s, 0, 0, false)
	}
}

// everyText goes through all texts of at most n bytes of an alphabet.
func everyText(alphabet string, n int, do func(s string)) {
	var grow func(s string)
	grow = func(s string) {
		do(s)
		if len(s) == n {
			return
		}
		for i := range len(alphabet) {
			grow(s + alphabet[i:i+1])
		}
	}
	grow("")
}

func TestNumberOnShortTexts(t *testing.T) {
	plain := regexp.MustCompile(`\A(0|[1-9][0-9]*)u?\z`)
	everyText("0123456789u-a ", 4, func(s string) {
		if !plain.MatchString(s) {
			wantNumber(t, s, 0, 0, false)
			return
		}
		v, _ := strconv.Atoi(strings.TrimSuffix(s, "u"))
		k := api.I32
		if strings.HasSuffix(s, "u") {
			k = api.U32
		}
		wantNumber(t, s, v, k, true)
	})
}

// byPatterns lexes by the words of 2.1 as patterns: another way to the same tokens, for texts too short for ErrLong.
func byPatterns(s string) string {
	gap := regexp.MustCompile(`\A([ \t\n\r]|#[^\n]*)*`)
	pats := []struct {
		kind int
		re   *regexp.Regexp
	}{
		{api.TokWord, regexp.MustCompile(`\A(` + strings.Join(keys(), "|") + `)([^a-z0-9_]|\z)`)},
		{api.TokName, regexp.MustCompile(`\A([a-z][a-z0-9_]*)`)},
		{api.TokNum, regexp.MustCompile(`\A((?:0|[1-9][0-9]*)u?)([^a-z0-9_]|\z)`)},
		{api.TokSign, regexp.MustCompile(`\A(==|!=|<=|>=|<<|>>|[(){}\[\],;:=<>+\-*/%&|^~])`)},
	}
	out := ""
	at := 0
next:
	for {
		at += len(gap.FindString(s[at:]))
		if at == len(s) {
			return out + fmt.Sprint(end(at))
		}
		for _, p := range pats {
			if m := p.re.FindStringSubmatch(s[at:]); m != nil {
				out += fmt.Sprint(tok(p.kind, m[1], at))
				at += len(m[1])
				continue next
			}
		}
		return fmt.Sprint("error ", api.ErrWord, " at ", at)
	}
}

func TestLexOnShortTexts(t *testing.T) {
	check := func(s string) {
		list, e, at := Lex(s)
		got := fmt.Sprint("error ", e, " at ", at)
		if e == api.OK {
			got = ""
			for _, k := range list {
				got += fmt.Sprint(k)
			}
		}
		if want := byPatterns(s); got != want {
			t.Errorf("2.1: Lex(%q) = %s, not %s", s, got, want)
		}
	}
	everyText("ou08_ A", 4, check)
	everyText("1u#\n\r=", 4, check)
	everyText("<>=!-a(", 4, check)
}
