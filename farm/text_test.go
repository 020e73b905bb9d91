package farm_test

import (
	"math/rand"
	"strings"
	"testing"

	"burin/api"
	"burin/farm"
	"burin/oracle"
)

// odd: texts with all that a report's own text is made of, and such as are no text of a program.
func odd() []string {
	return []string{
		"", "a", "b", "\n", "\n\n", " ", "7", "0", "reduced", "reduced 1", "reduced 1\nb", "reduced 0\n", "\nreduced 3\nabc", "program 1\na",
		"passes 2\nfaults 2\nverdict mismatch\nprogram 1\nareduced 1\nb", "i32 main(){return 0i32;}", "i32 main() { // reduced 1\n }\n",
		"\x00", "\xff\xfe", "\r\n", "\t", "9 9\n9", "é", strings.Repeat("x", 9), strings.Repeat("x", 10), strings.Repeat("\n", 99), strings.Repeat("0", 100),
		strings.Repeat("i", api.MaxSource), strings.Repeat(" ", api.MaxSource+1), strings.Repeat("reduced 1\n", 10000),
	}
}

// P28.1 and the chapter's example, byte by byte.
func TestText(t *testing.T) {
	for _, r := range []struct {
		passes, faults, kind byte
		program, reduced     string
		want                 string
	}{
		{2, 2, oracle.Mismatch, "a", "b", "passes 2\nfaults 2\nverdict mismatch\nprogram 1\nareduced 1\nb"},
		{2, 64, oracle.Mismatch, "a", "b", "passes 2\nfaults 64\nverdict mismatch\nprogram 1\nareduced 1\nb"},
		{0, 0, oracle.Invalid, "", "", "passes 0\nfaults 0\nverdict invalid\nprogram 0\nreduced 0\n"},
		{255, 9, oracle.Agree, "", "x", "passes 255\nfaults 9\nverdict agree\nprogram 0\nreduced 1\nx"},
		{10, 99, oracle.Agree, "x\n", "", "passes 10\nfaults 99\nverdict agree\nprogram 2\nx\nreduced 0\n"},
		{100, 101, 3, "é\x00", "0123456789", "passes 100\nfaults 101\nverdict invalid\nprogram 3\né\x00reduced 10\n0123456789"},
		{1, 20, 255, "reduced 0\n", "passes 1\n", "passes 1\nfaults 20\nverdict invalid\nprogram 10\nreduced 0\nreduced 9\npasses 1\n"},
	} {
		if got := farm.Text(r.passes, r.faults, r.kind, r.program, r.reduced); got != r.want {
			t.Errorf("Text(%d, %d, %d, %q, %q) = %q", r.passes, r.faults, r.kind, r.program, r.reduced, got)
		}
	}
}

// P28.1: all numbers of passes, of faults and of kinds; texts of all kinds, long ones too.
func TestTextOfAll(t *testing.T) {
	word := func(kind byte) string {
		if int(kind) < len(words) {
			return words[kind]
		}
		return "invalid"
	}
	r := rand.New(rand.NewSource(32))
	list := odd()
	for n := range 256 {
		passes, faults, kind := byte(n), byte(r.Intn(256)), byte(r.Intn(256))
		for range 3 {
			passes, faults, kind = faults, kind, passes // each of them is n once
			if got, want := farm.Text(passes, faults, kind, "a", "b"), report(passes, faults, word(kind), "a", "b"); got != want {
				t.Errorf("Text(%d, %d, %d, ..) = %q", passes, faults, kind, got)
			}
		}
	}
	for _, program := range list {
		for _, reduced := range list {
			kind := byte(r.Intn(3))
			if got, want := farm.Text(2, 64, kind, program, reduced), report(2, 64, words[kind], program, reduced); got != want {
				t.Errorf("Text of %d and %d bytes: %.99q; want %.99q", len(program), len(reduced), got, want)
			}
		}
	}
	great := strings.Repeat("ab", 1<<20)
	if farm.Text(1, 2, 1, great, great+"c") != report(1, 2, "agree", great, great+"c") {
		t.Error("Text of great texts")
	}
}
