package lex

import (
	"math/big"
	"math/rand"
	"regexp"
	"slices"
	"strconv"
	"strings"
	"testing"

	"burin/api"
)

// The signatures that the chapter lists.
var (
	_ func(string) bool                          = Word
	_ func(string) (byte, bool)                  = Int
	_ func(string) bool                          = Name
	_ func(string) ([]api.Token, int, api.Errno) = Lex
)

var allWords = strings.Fields("struct if else for to print return i8 u8 i16 u16 i32 u32")

var allSigns = strings.Fields("( ) { } [ ] ; , . ? : + - * / % & | ^ ~ ! < > = << >> <= >= == != && ||")

// kinds writes out the types' names, numbers and ends.
var kinds = []struct {
	name      string
	t         byte
	low, high string
}{
	{"i8", api.I8, "-128", "127"},
	{"u8", api.U8, "0", "255"},
	{"i16", api.I16, "-32768", "32767"},
	{"u16", api.U16, "0", "65535"},
	{"i32", api.I32, "-2147483648", "2147483647"},
	{"u32", api.U32, "0", "4294967295"},
}

func end(at int) api.Token { return api.Token{Kind: api.TokEnd, At: at} }

func name(s string, at int) api.Token { return api.Token{Kind: api.TokName, Text: s, At: at} }

func word(s string, at int) api.Token { return api.Token{Kind: api.TokWord, Text: s, At: at} }

func sig(s string, at int) api.Token { return api.Token{Kind: api.TokSign, Text: s, At: at} }

func num(s string, v int64, t byte, at int) api.Token {
	return api.Token{Kind: api.TokNumber, Text: s, N: v, Int: t, At: at}
}

func expect(t *testing.T, s string, want ...api.Token) {
	t.Helper()
	if list, at, e := Lex(s); e != api.OK || at != 0 || !slices.Equal(list, append(want, end(len(s)))) {
		t.Errorf("Lex(%q) = %v, %d, %d; want %v", s, list, at, e, want)
	}
}

func refuse(t *testing.T, s string, place int) {
	t.Helper()
	if list, at, e := Lex(s); e != api.ErrText || at != place || len(list) != 0 {
		t.Errorf("Lex(%q) = %v, %d, %d; want ErrText at %d", s, list, at, e, place)
	}
}

// The chapter's examples.
func TestExamples(t *testing.T) {
	expect(t, "a1 = 5u8; // x", name("a1", 0), sig("=", 3), num("5u8", 5, api.U8, 5), sig(";", 8))
	for _, s := range []string{"007u8", "256u8", "5", "5u8x", "#5i8", "#-0i8", "#-129i8", "abcdefghi", "A"} {
		refuse(t, s, 0)
	}
	expect(t, "#-128i8", num("#-128i8", -128, api.I8, 0))
	expect(t, "a<<=b", name("a", 0), sig("<<", 1), sig("=", 3), name("b", 4))
	expect(t, "5u8", num("5u8", 5, api.U8, 0))
}

// P4.1
func TestWords(t *testing.T) {
	for _, s := range allWords {
		if !Word(s) || Name(s) {
			t.Errorf("%s: Word %v, Name %v", s, Word(s), Name(s))
		}
		expect(t, s, word(s, 0))
		for _, other := range []string{s[:len(s)-1], s + "a", s + "0", " " + s, s + " ", strings.ToUpper(s), s + s, s + "\x00", strings.ToUpper(s[:1]) + s[1:]} {
			if Word(other) && !slices.Contains(allWords, other) {
				t.Errorf("%q is a word", other)
			}
		}
	}
	for _, s := range []string{"", "a", "i", "u", "i64", "u64", "int", "while", "main", "i8 u8", "i08", "0", "(", "#-", "else if"} {
		if Word(s) {
			t.Errorf("%q is a word", s)
		}
	}
}

// P4.1
func TestInts(t *testing.T) {
	for _, k := range kinds {
		if v, ok := Int(k.name); v != k.t || !ok {
			t.Errorf("Int(%s) = %d, %v", k.name, v, ok)
		}
	}
	for _, s := range append([]string{"", "i", "8", "i9", "u1", "i64", "I8", "i8 ", " i8", "i8i8", "u88", "i160", "i3", "a"}, allWords[:7]...) {
		if v, ok := Int(s); v != 0 || ok {
			t.Errorf("Int(%q) = %d, %v", s, v, ok)
		}
	}
}

// P4.1: all bytes ahead, behind and alone; the greatest length and one more.
func TestNames(t *testing.T) {
	for c := range 256 {
		s := string([]byte{byte(c)})
		small, figure := c >= 'a' && c <= 'z', c >= '0' && c <= '9'
		if Name(s) != small || Name(s+"x") != small || Name("x"+s) != (small || figure) || Name("x"+s+"y") != (small || figure) {
			t.Errorf("the byte %d", c)
		}
	}
	for _, s := range []string{"a", "z", "a0", "z9", "abcdefgh", "a1234567", "structs", "i9", "i64", "ifs", "fore", "zzzzzzzz", "main", "i88"} {
		if !Name(s) {
			t.Errorf("%q is no name", s)
		}
		expect(t, s, name(s, 0))
	}
	for _, s := range []string{"", "0", "0a", "abcdefghi", "a12345678", "a b", " a", "a ", "a\n", "Ab", "aB", "a_b", "é", "aé", "a.b", "5u8", strings.Repeat("a", 1<<17)} {
		if Name(s) {
			t.Errorf("%q is a name", s)
		}
	}
}

// P4.2: the ends of each type, and one beyond each.
func TestNumberEnds(t *testing.T) {
	for _, k := range kinds {
		for _, edge := range []struct {
			text  string
			inner int64
		}{{k.low, 1}, {k.high, -1}} {
			v, _ := new(big.Int).SetString(edge.text, 10)
			for d := int64(-2); d <= 2; d++ {
				x := new(big.Int).Add(v, big.NewInt(d))
				s := x.String() + k.name
				if x.Sign() < 0 {
					s = "#" + s
				}
				if d*edge.inner >= 0 {
					expect(t, s, num(s, x.Int64(), k.t, 0))
				} else {
					refuse(t, s, 0)
				}
			}
		}
		expect(t, "0"+k.name, num("0"+k.name, 0, k.t, 0))
		expect(t, "1"+k.name, num("1"+k.name, 1, k.t, 0))
		refuse(t, "#-0"+k.name, 0)
		if k.low == "0" {
			refuse(t, "#-1"+k.name, 0)
		} else {
			expect(t, "#-1"+k.name, num("#-1"+k.name, -1, k.t, 0))
		}
	}
}

// P4.2: the form of numbers; all of these are at fault at their first byte, wherever they stand.
func TestWrongNumbers(t *testing.T) {
	for _, s := range []string{
		"0", "5", "00u8", "01u8", "007", "0000000001u8", "00000000005u8", "12345678901u32", "4294967296u32", "9999999999u32", "99999999999999999999u32", "18446744073709551621u8",
		"5u", "5i", "5u9", "5i64", "5x", "5u8a", "5u80", "5u8u8", "5struct", "5 u8", "5\tu8", "5//\nu8", "5U8", "5u8z9", "5u160", "1i", "1i3", "1i322",
		"#", "#-", "#5u8", "#-a", "#-i8", "#- 5i8", "# -5i8", "#--5i8", "#+5i8", "#-05i8", "#-00i8", "#-5", "#-5i8x", "#-5u8", "#-0u8", "#-5i8i8", "#-12345678901i32", "#-2147483649i32", "##-5i8", "#-5 i8", "#-#-5i8",
		"5.0", "5", "5;", "5(", "5-", "5é",
		strings.Repeat("1", 1000) + "u8", strings.Repeat("0", api.MaxSource), strings.Repeat("9", api.MaxSource-2) + "u8",
	} {
		refuse(t, s, 0)
		if len(s) < 100 {
			refuse(t, "a "+s, 2)
			refuse(t, "+"+s, 1)
			refuse(t, "7i8 "+s+" @", 4)
		}
	}
}

// P4.2: numbers beside other tokens.
func TestNumbers(t *testing.T) {
	expect(t, "-5i8", sig("-", 0), num("5i8", 5, api.I8, 1))
	expect(t, "1u8#-2i16", num("1u8", 1, api.U8, 0), num("#-2i16", -2, api.I16, 3))
	expect(t, "1u8+2u8", num("1u8", 1, api.U8, 0), sig("+", 3), num("2u8", 2, api.U8, 4))
	expect(t, "1u8 2u8", num("1u8", 1, api.U8, 0), num("2u8", 2, api.U8, 4))
	expect(t, "[3i32]", sig("[", 0), num("3i32", 3, api.I32, 1), sig("]", 5))
	expect(t, "1u8//2", num("1u8", 1, api.U8, 0))
	expect(t, "a5u8", name("a5u8", 0))
	expect(t, "1234567890u32", num("1234567890u32", 1234567890, api.U32, 0))
	expect(t, "-#-2147483648i32", sig("-", 0), num("#-2147483648i32", -2147483648, api.I32, 1))
	refuse(t, "5u8#", 3)
	refuse(t, "5u8_", 3)
	refuse(t, "5u8A", 3)
}

// P4.2: letters and digits behind a letter belong together.
func TestLetters(t *testing.T) {
	refuse(t, "abcdefghi", 0)
	refuse(t, "a2345678 a23456789", 9)
	refuse(t, "return1234", 0)
	refuse(t, "x=abcdefg5u8", 2)
	refuse(t, "aB", 1)
	refuse(t, "a_b", 1)
	refuse(t, "aé", 1)
	refuse(t, strings.Repeat("a", api.MaxSource), 0)
	expect(t, "returns", name("returns", 0))
	expect(t, "return s", word("return", 0), name("s", 7))
	expect(t, "i8x", name("i8x", 0))
	expect(t, "(i8)x", sig("(", 0), word("i8", 1), sig(")", 3), name("x", 4))
	expect(t, "abcdefgh(ijklmnop", name("abcdefgh", 0), sig("(", 8), name("ijklmnop", 9))
	refuse(t, "for i=0i32to3i32", 6)
	expect(t, "for i=0i32 to", word("for", 0), name("i", 4), sig("=", 5), num("0i32", 0, api.I32, 6), word("to", 11))
}

// P4.2: all signs, alone and by twos: the longer one stands.
func TestSigns(t *testing.T) {
	for _, a := range allSigns {
		expect(t, a, sig(a, 0))
		expect(t, "x"+a+"y", name("x", 0), sig(a, 1), name("y", 1+len(a)))
		for _, b := range allSigns {
			expect(t, a+" "+b, sig(a, 0), sig(b, len(a)+1))
			s := a + b
			if strings.HasPrefix(s, "//") {
				expect(t, s)
				continue
			}
			var want []api.Token
			for at := 0; at < len(s); {
				text := s[at : at+1]
				if at+2 <= len(s) && slices.Contains(allSigns, s[at:at+2]) {
					text = s[at : at+2]
				}
				want = append(want, sig(text, at))
				at += len(text)
			}
			expect(t, s, want...)
		}
	}
	expect(t, "<<<", sig("<<", 0), sig("<", 2))
	expect(t, ">>>=", sig(">>", 0), sig(">=", 2))
	expect(t, "===", sig("==", 0), sig("=", 2))
	expect(t, "&&&&&", sig("&&", 0), sig("&&", 2), sig("&", 4))
	expect(t, "|||", sig("||", 0), sig("|", 2))
	expect(t, "!==", sig("!=", 0), sig("=", 2))
	expect(t, "=!", sig("=", 0), sig("!", 1))
	expect(t, "/ /", sig("/", 0), sig("/", 2))
	expect(t, "*/", sig("*", 0), sig("/", 1))
}

// P4.2: each byte alone, between names, and in a remark.
func TestBytes(t *testing.T) {
	for c := range 256 {
		s := string([]byte{byte(c)})
		switch {
		case strings.Contains(" \t\n", s):
			expect(t, s)
			expect(t, "a"+s+"b", name("a", 0), name("b", 2))
		case c >= 'a' && c <= 'z':
			expect(t, s, name(s, 0))
		case slices.Contains(allSigns, s):
			expect(t, s, sig(s, 0))
		default:
			refuse(t, s, 0)
		}
		if c != '\n' {
			expect(t, "a//"+s+"\nb", name("a", 0), name("b", 5))
		}
	}
	for _, s := range []string{"\r", "\v", "\f", "\x00", "\x7f", "\u00a0", "\u2028", "\ufeff", "é", "\xff", "$", "@", "\"", "'", "\\", "_", "`", "Z"} {
		refuse(t, s, 0)
		refuse(t, "a; "+s+"b", 3)
	}
}

// P4.2: blanks and remarks, at the end too.
func TestBlanks(t *testing.T) {
	for _, s := range []string{"", " ", "\t", "\n", " \t\n \n", "//", "///", "//\n", "// x", "// x\n", "//a\n//b", " // @ é \xff \r\n\t", "//*\n"} {
		expect(t, s)
	}
	expect(t, "a// x", name("a", 0))
	expect(t, "a//x\nb", name("a", 0), name("b", 5))
	expect(t, "a/b", name("a", 0), sig("/", 1), name("b", 2))
	expect(t, "a/ /b", name("a", 0), sig("/", 1), sig("/", 3), name("b", 4))
	expect(t, "a / // / b\n/ b", name("a", 0), sig("/", 2), sig("/", 11), name("b", 13))
	refuse(t, "// x\n@", 5)
	refuse(t, "a\r\n", 1)
	refuse(t, "//\n5", 3)
}

// P4.2: the first fault counts.
func TestFirstFault(t *testing.T) {
	refuse(t, "a @ A", 2)
	refuse(t, "abcdefgh 007u8 @", 9)
	refuse(t, "x = 256u8; y = @", 4)
	refuse(t, strings.Repeat(" ", api.MaxSource-1)+"@", api.MaxSource-1)
	refuse(t, strings.Repeat(" ", api.MaxSource-1)+"5", api.MaxSource-1)
}

// P4.2: as many bytes as there may be, and one more.
func TestLength(t *testing.T) {
	n := api.MaxSource
	expect(t, strings.Repeat(" ", n))
	expect(t, "//"+strings.Repeat("é", n/2-1))
	expect(t, strings.Repeat(" ", n-1)+"a", name("a", n-1))
	if list, at, e := Lex(strings.Repeat("(", n)); e != api.OK || at != 0 || len(list) != n+1 || list[n-1] != sig("(", n-1) || list[n] != end(n) {
		t.Errorf("%d signs: %d tokens, %d, %d", n, len(list), at, e)
	}
	for _, s := range []string{strings.Repeat(" ", n+1), "@" + strings.Repeat(" ", n), strings.Repeat("a", n+1), strings.Repeat("a ", n), "//" + strings.Repeat(" ", n-1), strings.Repeat("5", 3*n)} {
		if list, at, e := Lex(s); e != api.ErrLong || at != 0 || len(list) != 0 {
			t.Errorf("Lex of %d bytes: %d tokens, %d, %d", len(s), len(list), at, e)
		}
	}
}

var (
	blankForm  = regexp.MustCompile(`^(?:[ \t\n]|//[^\n]*)`)
	letterForm = regexp.MustCompile(`^[a-z][a-z0-9]*`)
	numberForm = regexp.MustCompile(`^(#-)?(0|[1-9][0-9]{0,9})(i8|u8|i16|u16|i32|u32)([a-z0-9]?)`)
	signForm   = regexp.MustCompile(`^(?:<<|>>|<=|>=|==|!=|&&|\|\||[][(){};,.?:+*/%&|^~!<>=-])`)
)

// model reads by forms of texts, with numbers of any size.
func model(s string) ([]api.Token, int, api.Errno) {
	var list []api.Token
	for at := 0; at < len(s); {
		rest := s[at:]
		if b := blankForm.FindString(rest); b != "" {
			at += len(b)
			continue
		}
		token := api.Token{At: at}
		if w := letterForm.FindString(rest); slices.Contains(allWords, w) {
			token.Kind, token.Text = api.TokWord, w
		} else if w != "" && len(w) <= 8 {
			token.Kind, token.Text = api.TokName, w
		} else if v, ok := modelNumber(rest); ok {
			token = v
			token.At = at
		} else if x := signForm.FindString(rest); x != "" {
			token.Kind, token.Text = api.TokSign, x
		} else {
			return nil, at, api.ErrText
		}
		list = append(list, token)
		at += len(token.Text)
	}
	return append(list, end(len(s))), 0, api.OK
}

func modelNumber(s string) (api.Token, bool) {
	m := numberForm.FindStringSubmatch(s)
	if m == nil || m[4] != "" {
		return api.Token{}, false
	}
	v, _ := strconv.ParseInt(m[2], 10, 64)
	if m[1] != "" && v == 0 {
		return api.Token{}, false
	}
	if m[1] != "" {
		v = -v
	}
	for _, k := range kinds {
		low, _ := strconv.ParseInt(k.low, 10, 64)
		high, _ := strconv.ParseInt(k.high, 10, 64)
		if k.name == m[3] && low <= v && v <= high {
			return num(m[0], v, k.t, 0), true
		}
	}
	return api.Token{}, false
}

// P4.2, of texts of all shapes against the model: all of two bytes, and random ones of pieces that go together.
func TestAgainstModel(t *testing.T) {
	check := func(s string) {
		list, at, e := Lex(s)
		wantList, wantAt, want := model(s)
		if e != want || at != wantAt || !slices.Equal(list, wantList) {
			t.Fatalf("Lex(%q) = %v, %d, %d; want %v, %d, %d", s, list, at, e, wantList, wantAt, want)
		}
	}
	for a := range 256 {
		for b := range 256 {
			check(string([]byte{byte(a), byte(b)}))
		}
	}
	r := rand.New(rand.NewSource(7))
	good := append(append([]string{" ", "\n", "\t", "// r\n", "a", "b1", "name", "12u8 ", "0i8 ", "#-7i32 ", "4294967295u32 "}, allWords...), allSigns...)
	pieces := append([]string{"0", "1", "9", "25", "#", "#-", "i8", "u16", "@", "A", "//", "abcdefg"}, good...)
	for i := range 40000 {
		from := good
		if i%2 == 0 {
			from = pieces
		}
		var b strings.Builder
		for range r.Intn(9) {
			b.WriteString(from[r.Intn(len(from))])
		}
		check(b.String())
	}
}

// P2, memory: the same text, the same answer, in new memory.
func TestAnswersAreNew(t *testing.T) {
	s := "u8 f(u8 a) { return a + #-1i8; } // end"
	first, _, _ := Lex(s)
	second, _, _ := Lex(s)
	want := slices.Clone(second)
	for i := range first[:cap(first)] {
		first[:cap(first)][i] = api.Token{Kind: 99}
	}
	third, _, _ := Lex(s)
	if !slices.Equal(second, want) || !slices.Equal(third, want) {
		t.Error("answers share memory, or differ")
	}
	for _, token := range want {
		if s[token.At:token.At+len(token.Text)] != token.Text {
			t.Errorf("%v isn't the text at its place", token)
		}
	}
}
