package farm_test

import (
	"fmt"
	"math/rand"
	"reflect"
	"regexp"
	"strconv"
	"strings"
	"testing"

	"burin/api"
	"burin/farm"
	"burin/oracle"
	"burin/parse"
)

const (
	sum    = "i32 main() { print(2i32 + 3i32); return 0i32; }"
	least  = "i32 main(){print(0i32+0i32);}"
	unsafe = "i32 main() { print(1i32 / 0i32); }"
)

var head = regexp.MustCompile(`^passes (0|[1-9][0-9]{0,2})\nfaults (0|[1-9][0-9]{0,2})\nverdict (agree|mismatch|invalid)\nprogram (0|[1-9][0-9]{0,4})\n`)
var middle = regexp.MustCompile(`^reduced (0|[1-9][0-9]{0,4})\n`)

// model is a second telling of P28.3.
func model(s string) (first, second oracle.Verdict, e api.Errno) {
	none := oracle.Verdict{}
	number := func(digits string) int {
		v, _ := strconv.Atoi(digits)
		return v
	}
	top := head.FindStringSubmatch(s)
	if top == nil || number(top[1]) > 255 || number(top[2]) > 255 || number(top[4]) > api.MaxSource {
		return none, none, api.ErrText
	}
	s = s[len(top[0]):]
	size := number(top[4])
	if size > len(s) {
		return none, none, api.ErrText
	}
	program := s[:size]
	s = s[size:]
	last := middle.FindStringSubmatch(s)
	if last == nil || number(last[1]) > api.MaxSource || number(last[1]) != len(s)-len(last[0]) {
		return none, none, api.ErrText
	}
	reduced := s[len(last[0]):]
	p, _, e1 := parse.Parse(program)
	q, _, e2 := parse.Parse(reduced)
	if e1 != api.OK || e2 != api.OK {
		return none, none, api.ErrText
	}
	passes, faults := byte(number(top[1])), byte(number(top[2]))
	first, second = oracle.Judge(p, passes, faults), oracle.Judge(q, passes, faults)
	if words[first.Kind] != top[3] {
		return none, none, api.ErrForm
	}
	return first, second, api.OK
}

// replayed holds a Replay against the second telling.
func replayed(t *testing.T, s string) (oracle.Verdict, oracle.Verdict, api.Errno) {
	t.Helper()
	first, second, e := farm.Replay(s)
	wantFirst, wantSecond, want := model(s)
	if e != want || !reflect.DeepEqual(first, wantFirst) || !reflect.DeepEqual(second, wantSecond) {
		t.Fatalf("Replay(%.300q): %+v, %+v, %d; want %+v, %+v, %d", s, first, second, e, wantFirst, wantSecond, want)
	}
	return first, second, e
}

// expect: that is what Replay answers; beside an error no verdict.
func expect(t *testing.T, s string, want api.Errno) {
	t.Helper()
	first, second, e := replayed(t, s)
	if none := (oracle.Verdict{}); e != want || e != api.OK && !(reflect.DeepEqual(first, none) && reflect.DeepEqual(second, none)) {
		t.Errorf("Replay(%.300q): %d, %+v, %+v; want %d", s, e, first, second, want)
	}
}

// P28.3: reports made by hand, verdict by verdict; the word is that of the first one, whatever the second one is.
func TestReplay(t *testing.T) {
	for _, r := range []struct {
		passes, faults   byte
		program, reduced string
		first, second    byte
	}{
		{2, 2, sum, least, oracle.Mismatch, oracle.Mismatch},
		{2, 2, sum, "i32 main(){}", oracle.Mismatch, oracle.Agree},
		{2, 2, sum, unsafe, oracle.Mismatch, oracle.Invalid},
		{2, 0, sum, least, oracle.Agree, oracle.Agree},
		{0, 2, sum, sum, oracle.Agree, oracle.Agree},
		{255, 255, sum, least, oracle.Mismatch, oracle.Mismatch},
		{192, 128, sum, least, oracle.Agree, oracle.Agree},
		{2, 2, "i32 main() { }", sum, oracle.Agree, oracle.Mismatch},
		{63, 127, unsafe, sum, oracle.Invalid, oracle.Mismatch},
		{0, 0, unsafe, unsafe, oracle.Invalid, oracle.Invalid},
		{0, 0, "", "", oracle.Invalid, oracle.Invalid},
		{0, 0, "\n // ", " ", oracle.Invalid, oracle.Invalid},
		{1, 0, "u8 x; u8 x; i32 main() { }", "i32 main() { main(); }", oracle.Invalid, oracle.Invalid},
		{2, 2, sum + "// reduced 5\nreduced", "", 3, 3},
		{2, 2, sum + "\n// \n", "// program 3\n" + least + "// reduced 7", oracle.Mismatch, oracle.Mismatch},
	} {
		for kind, word := range words {
			s := farm.Text(r.passes, r.faults, byte(kind), r.program, r.reduced)
			if s != report(r.passes, r.faults, word, r.program, r.reduced) {
				t.Fatalf("Text = %q", s)
			}
			if r.first == 3 {
				expect(t, s, api.ErrText)
				continue
			}
			if byte(kind) != r.first {
				expect(t, s, api.ErrForm)
				continue
			}
			first, second, e := replayed(t, s)
			if e != api.OK || first.Kind != r.first || second.Kind != r.second {
				t.Errorf("Replay(%q): %+v, %+v, %d", s, first, second, e)
			}
		}
	}
}

// P28.3, field by field: what is said of a program, and of one that is at fault, where and why.
func TestReplayedVerdicts(t *testing.T) {
	_, second, e := replayed(t, report(0, 64, "agree", "i32 main() { }", unsafe))
	if want := (oracle.Verdict{At: 4, E: api.ErrUnsafe}); e != api.OK || !reflect.DeepEqual(second, want) {
		t.Errorf("%+v, %d", second, e)
	}
	first, second, e := replayed(t, report(2, 2, "mismatch", sum, "i32 main() { return 7i32; }"))
	if e != api.OK || first.Bound != 6 || !reflect.DeepEqual(first.Want.Trace, []int64{5}) || !reflect.DeepEqual(first.Got.Trace, []int64{6}) ||
		second.Want.Exit != 7 || second.Got.Exit != 7 || second.Kind != oracle.Agree {
		t.Errorf("%+v, %+v, %d", first, second, e)
	}
	first, second, e = replayed(t, report(0, 0, "invalid", "", "i32 x;"))
	if e != api.OK || first.Kind != oracle.Invalid || first.E != api.ErrForm || second.E != api.ErrForm {
		t.Errorf("%+v, %+v, %d", first, second, e)
	}
	roomy := "i32 main() { for i = 0i32 to 16i32 { for j = 0i32 to 16i32 { for k = 0i32 to 16i32 { print(1u8); print(2u8); } } } }"
	if first, _, e = replayed(t, report(0, 0, "invalid", roomy, sum)); e != api.OK || first.E != api.ErrLimit {
		t.Errorf("%+v, %d", first, e)
	}
}

// P28.3: the numbers of passes and of faults: each that there is, and such as there are not, with noughts, signs and blanks.
func TestReplayedBits(t *testing.T) {
	for _, v := range []int{0, 9, 10, 99, 100, 255} {
		expect(t, report(v, 0, "agree", sum, sum), api.OK)
		expect(t, report(0, v&^64, "agree", sum, sum), api.OK)
	}
	for v := range 256 {
		word := words[oracle.Judge(parsed(t, sum), byte(v), byte(255-v)).Kind]
		expect(t, report(v, 255-v, word, sum, least), api.OK)
	}
	for _, v := range []string{
		"256", "257", "258", "300", "511", "512", "768", "999", "1000", "65536", "65538", "4294967296", "9223372036854775807", "9223372036854775808", "18446744073709551616", "18446744073709551618",
		strings.Repeat("9", 400), strings.Repeat("0", 400), "00", "02", "002", "0002", "-0", "+0", "-1", "-2", "+2", "--2", "2.", "2.0", "2e0", "0x2", "2_0", "1_2", "", " ", " 2", "2 ", "\t2", "2\t", "2\r", "\v2", "a", "2a", "a2", "٢", "２", "2\x00", "2,", "i2", "2\n2",
	} {
		for _, word := range words {
			expect(t, report(v, 2, word, sum, least), api.ErrText)
			expect(t, report(2, v, word, sum, least), api.ErrText)
		}
	}
}

// sized: a report with these in the place of N and M.
func sized(n, m any, program, reduced string) string {
	return fmt.Sprintf("passes 2\nfaults 2\nverdict mismatch\nprogram %v\n%sreduced %v\n%s", n, program, m, reduced)
}

// P28.3: N and M that don't fit what follows, or aren't told as numbers are.
func TestReplayedSizes(t *testing.T) {
	n, m := len(sum), len(least)
	expect(t, sized(n, m, sum, least), api.OK)
	for by := -m; by <= 3*n; by++ {
		if by == 0 {
			continue
		}
		expect(t, sized(n+by, m, sum, least), api.ErrText)
		expect(t, sized(n, m+by, sum, least), api.ErrText)
		expect(t, sized(n-by, m+by, sum, least), api.ErrText)
	}
	for _, v := range []string{"-", "+", "", " ", "0", "00", "x", "-1", "99999", "65536", "65537", "4294967296", "9223372036854775807", "9223372036854775808", "18446744073709551616"} {
		expect(t, sized(v, m, sum, least), api.ErrText)
		expect(t, sized(n, v, sum, least), api.ErrText)
	}
	for _, ahead := range []string{"0", "00", "+", "-", " ", "\t", "0x", "１"} {
		expect(t, sized(ahead+strconv.Itoa(n), m, sum, least), api.ErrText)
		expect(t, sized(n, ahead+strconv.Itoa(m), sum, least), api.ErrText)
	}
	for _, behind := range []string{" ", "\t", "\r", "\n", ".", ".0", "\x00", "i32", "e0"} {
		expect(t, sized(strconv.Itoa(n)+behind, m, sum, least), api.ErrText)
		expect(t, sized(n, strconv.Itoa(m)+behind, sum, least), api.ErrText)
	}
	// As 2^64 more, too, as 2^32 more: numbers that come out right only where they wrap round.
	for _, v := range []uint64{1 << 32, 1 << 63} {
		expect(t, sized(v+uint64(n), m, sum, least), api.ErrText)
		expect(t, sized(n, v+uint64(m), sum, least), api.ErrText)
	}
	expect(t, sized("18446744073709551"+strconv.Itoa(616+n), m, sum, least), api.ErrText)
	expect(t, sized(n, "18446744073709551"+strconv.Itoa(616+m), sum, least), api.ErrText)
}

// P28.3: programs of no bytes, of as many as there may be, and of one more.
func TestReplayedLimits(t *testing.T) {
	pad := func(s string, size int) string { return s + strings.Repeat(" ", size-len(s)) }
	remark := func(s string, size int) string {
		return s + "//" + strings.Repeat("\n", size-len(s)-3) + "\n"
	}
	for _, r := range []struct {
		word             string
		program, reduced int
		want             api.Errno
	}{
		{"mismatch", api.MaxSource, 100, api.OK}, {"mismatch", 100, api.MaxSource, api.OK}, {"mismatch", api.MaxSource, api.MaxSource, api.OK},
		{"mismatch", api.MaxSource - 1, api.MaxSource - 1, api.OK}, {"agree", api.MaxSource, api.MaxSource, api.ErrForm},
		{"mismatch", api.MaxSource + 1, 100, api.ErrText}, {"mismatch", 100, api.MaxSource + 1, api.ErrText}, {"agree", api.MaxSource + 1, api.MaxSource + 1, api.ErrText},
		{"mismatch", 2 * api.MaxSource, 100, api.ErrText}, {"mismatch", 99999, 99999, api.ErrText}, {"mismatch", 100000, 100, api.ErrText},
	} {
		expect(t, report(2, 2, r.word, pad(sum, r.program), pad(least, r.reduced)), r.want)
		expect(t, report(2, 2, r.word, remark(sum, r.program), remark(least, r.reduced)), r.want)
	}
	expect(t, report(2, 2, "mismatch", sum, ""), api.OK)
	expect(t, report(2, 2, "invalid", "", sum), api.OK)
	expect(t, report(2, 2, "mismatch", "", sum), api.ErrForm)
	expect(t, report(0, 0, "invalid", "", ""), api.OK)
	expect(t, report(0, 0, "agree", "", ""), api.ErrForm)
}

// P28.3: a text that parse.Parse refuses, for whatever reason, in either place: ErrText, whatever word stands there.
func TestReplayedTexts(t *testing.T) {
	deep := "i32 main() { print(" + strings.Repeat("(", api.MaxDepth) + "1i32" + strings.Repeat(")", api.MaxDepth) + "); }"
	deepTree := "i32 main() { print(" + strings.Repeat("-", api.MaxDepth) + "1i32); }"
	long := "i32 main() {" + strings.Repeat("print(1i32);", api.MaxNodes/2) + "}"
	for _, r := range []struct {
		s string
		e api.Errno
	}{{"a", api.ErrText}, {"i32", api.ErrText}, {"i32 main() {", api.ErrText}, {"i32 main() { print(007u8); }", api.ErrText}, {sum + "}", api.ErrText}, {"\x00", api.ErrText}, {"\xff", api.ErrText},
		{"reduced 1\nb", api.ErrText}, {deep, api.ErrDeep}, {deepTree, api.ErrDeep}, {long, api.ErrLong}} {
		if _, _, e := parse.Parse(r.s); e != r.e {
			t.Fatalf("Parse(%.99q): %d; want %d", r.s, e, r.e)
		}
		for _, word := range words {
			expect(t, report(2, 2, word, r.s, least), api.ErrText)
			expect(t, report(2, 2, word, sum, r.s), api.ErrText)
			expect(t, report(2, 2, word, r.s, r.s), api.ErrText)
			expect(t, report(2, 2, word, unsafe, r.s), api.ErrText)
		}
	}
	for _, s := range odd() {
		expect(t, s, api.ErrText)
		for _, other := range odd() {
			kind := byte(oracle.Agree)
			if n, _, e := parse.Parse(s); e == api.OK {
				kind = oracle.Judge(n, 0, 0).Kind
			}
			replayed(t, farm.Text(0, 0, kind, s, other))
		}
	}
}

// P28.3: words that there are not, in the place of the verdict's and of the lines' own.
func TestReplayedWords(t *testing.T) {
	for _, word := range []string{"", " ", "Agree", "AGREE", "Mismatch", "Invalid", "agree ", " agree", " mismatch", "mismatch ", "agre", "agreed", "mis", "match", "mismatch\n", "\nmismatch", "mismatch\r", "invalid\x00", "0", "1", "2", "ok", "agree mismatch"} {
		expect(t, report(2, 2, word, sum, least), api.ErrText)
		expect(t, report(2, 0, word, sum, least), api.ErrText)
		expect(t, report(2, 2, word, unsafe, least), api.ErrText)
	}
	right := report(2, 2, "mismatch", sum, least)
	for _, word := range []string{"passes", "faults", "verdict", "program", "reduced"} {
		for _, other := range []string{"", " ", word + " ", " " + word, word + word, word + "s", word[1:], word[:len(word)-1], word + "\t", word + "\n", word + ":", strings.ToUpper(word), strings.ToUpper(word[:1]) + word[1:], "passes", "faults", "verdict", "program", "reduced"} {
			if other != word {
				expect(t, strings.Replace(right, word+" ", other+" ", 1), api.ErrText)
			}
		}
		for _, between := range []string{"", "  ", "\t", "\n", "\u00a0", ": ", "=", " \t"} {
			expect(t, strings.Replace(right, word+" ", word+between, 1), api.ErrText)
		}
		line := regexp.MustCompile(word + " [a-z0-9]+\n").FindString(right)
		for _, other := range []string{"", "\n", line + line, line + "\n", "\n" + line, strings.TrimSuffix(line, "\n"), strings.TrimSuffix(line, "\n") + "\r\n", strings.TrimSuffix(line, "\n") + "\r", strings.TrimSuffix(line, "\n") + " \n", strings.TrimSuffix(line, "\n") + "\x00"} {
			expect(t, strings.Replace(right, line, other, 1), api.ErrText)
		}
	}
	lines := strings.SplitAfter(right, "\n")
	for i := range lines[:len(lines)-2] {
		lines[i], lines[i+1] = lines[i+1], lines[i]
		expect(t, strings.Join(lines, ""), api.ErrText)
		lines[i], lines[i+1] = lines[i+1], lines[i]
	}
}

// P28.3: a report's text cut short at each place, at its end and at its beginning; with something behind it, or in front of it; with a byte more, one less, and another one, at each place.
func TestReplayedPieces(t *testing.T) {
	r := rand.New(rand.NewSource(33))
	for _, s := range []string{report(2, 2, "mismatch", sum, least), report(63, 0, "agree", sum, sum), report(10, 255, "invalid", unsafe, unsafe), report(0, 100, "invalid", "", "")} {
		expect(t, s, api.OK)
		for i := range s {
			expect(t, s[:i], api.ErrText)
			expect(t, s[i+1:], api.ErrText)
		}
		for _, more := range []string{"\n", " ", "0", "x", "\x00", "\n\n", "reduced 0\n", "program 0\n", "passes 0\n", s} {
			expect(t, s+more, api.ErrText)
			expect(t, more+s, api.ErrText)
		}
		for i := range s {
			replayed(t, s[:i]+s[i+1:])
			for _, b := range []byte{0, ' ', '\n', '\r', '\t', '0', '1', '2', '9', '-', '+', 'a', 'p', 0x80, 0xff, byte(r.Intn(256))} {
				replayed(t, s[:i]+string([]byte{b})+s[i:])
				replayed(t, s[:i]+string([]byte{b})+s[i+1:])
			}
		}
	}
}

// P1, P28.3: texts that come of reports by some changes, and texts of a report's words in any order.
func TestReplayedAnything(t *testing.T) {
	r := rand.New(rand.NewSource(34))
	errors := map[api.Errno]int{}
	pieces := []string{"passes ", "faults ", "verdict ", "program ", "reduced ", "agree", "mismatch", "invalid", "\n", "\n", " ", "0", "1", "2", "47", "29", sum, least, unsafe, "i32 ", "(", ")", "{", "}"}
	for range 20000 {
		var s string
		if r.Intn(4) == 0 {
			for range r.Intn(30) {
				s += pieces[r.Intn(len(pieces))]
			}
		} else {
			s = report(r.Intn(260), r.Intn(260), words[r.Intn(3)], []string{sum, least, unsafe, ""}[r.Intn(4)], []string{sum, least, unsafe, ""}[r.Intn(4)])
			for range r.Intn(3) {
				at, to := r.Intn(len(s)+1), r.Intn(len(s)+1)
				s = s[:at] + []string{"", pieces[r.Intn(len(pieces))], s[min(at, to):to], string([]byte{byte(r.Intn(256))})}[r.Intn(4)] + s[max(at, min(to, at+r.Intn(3))):]
			}
		}
		_, _, e := replayed(t, s)
		errors[e]++
	}
	t.Logf("errors %v", errors)
	if len(errors) != 3 || errors[api.OK] < 1000 || errors[api.ErrForm] < 1000 || errors[api.ErrText] < 1000 {
		t.Errorf("errors %v", errors)
	}
	expect(t, strings.Repeat("9", 1<<22), api.ErrText)
	expect(t, "passes "+strings.Repeat("9", 1<<22)+"\n", api.ErrText)
	expect(t, "passes 1"+strings.Repeat("\n", 1<<22), api.ErrText)
	expect(t, sized("1"+strings.Repeat("0", 1<<22), 1, sum, least), api.ErrText)
	expect(t, report(2, 2, "mismatch", strings.Repeat("(", 1<<22), least), api.ErrText)
}
