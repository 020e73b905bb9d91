package code_test

import (
	"math"
	"math/rand"
	"testing"

	"burin/api"
	"burin/code"
)

// The signatures and the numbers that the chapter lists.
var (
	_ func(code.Word) (uint64, api.Errno)          = code.Encode
	_ func(uint64) (code.Word, api.Errno)          = code.Decode
	_ func(api.Code, bool) (code.Image, api.Errno) = code.Emit

	_ = code.Word{Op: byte(0), Type: byte(0), D: byte(0), A: byte(0), B: byte(0), Imm: uint32(0)}
	_ = code.Image{Words: []uint64(nil), Starts: []int(nil), Frames: []int(nil), Data: []int64(nil)}
)

// The chapter's Ops stand in a row from 20 to 40.
func TestNumbers(t *testing.T) {
	for n, op := range []byte{
		code.MNum, code.MMove, code.MNeg, code.MNot, code.MBang, code.MCast, code.MFrame, code.MGlobal, code.MIndex, code.MOff, code.MLoad,
		code.MStore, code.MArg, code.MCall, code.MPrint, code.MJump, code.MZero, code.MRet, code.MGet, code.MPut, code.MPar,
	} {
		if int(op) != 20+n {
			t.Errorf("%d; want %d", op, 20+n)
		}
	}
	if code.MPar != 40 {
		t.Errorf("MPar = %d", code.MPar)
	}
}

// The chapter's examples.
func TestExamples(t *testing.T) {
	w := code.Word{Op: code.MNum, Type: api.I32, D: 1, Imm: 5}
	if v, e := code.Encode(w); v != 0x1441000000000005 || e != api.OK {
		t.Errorf("Encode = %x, %d", v, e)
	}
	if got, e := code.Decode(0x1441000000000005); got != w || e != api.OK {
		t.Errorf("Decode = %v, %d", got, e)
	}
	if got, e := code.Decode(0x1441000100000005); got != (code.Word{}) || e != api.ErrForm {
		t.Errorf("Decode = %v, %d", got, e)
	}
}

// word: where each field stands, a second way: by its weight.
func word(w code.Word) uint64 {
	fields := [][2]uint64{{uint64(w.Op), 256}, {uint64(w.Type), 16}, {uint64(w.D), 16}, {uint64(w.A), 16}, {uint64(w.B), 16}, {0, 256}, {uint64(w.Imm), 1 << 32}}
	var v uint64
	for _, f := range fields {
		v = v*f[1] + f[0]
	}
	return v
}

func within(w code.Word) bool { return w.Type < 16 && w.D < 16 && w.A < 16 && w.B < 16 }

// encoded asks what Encode and Decode make of an instruction.
func encoded(t *testing.T, w code.Word) {
	t.Helper()
	v, e := code.Encode(w)
	if !within(w) {
		if v != 0 || e != api.ErrForm {
			t.Fatalf("Encode(%v) = %x, %d", w, v, e)
		}
		return
	}
	if v != word(w) || e != api.OK {
		t.Fatalf("Encode(%v) = %x, %d; want %x", w, v, e, word(w))
	}
	if back, e := code.Decode(v); back != w || e != api.OK {
		t.Fatalf("Decode(%x) = %v, %d; want %v", v, back, e, w)
	}
}

// P24.1: every Op, each field at its edges, Imm at its own, all with all.
func TestEncode(t *testing.T) {
	edges := []byte{0, 1, 7, 8, 14, 15, 16, 17, 31, 128, 255}
	for op := range 256 {
		for _, typ := range edges {
			for _, d := range edges {
				for _, a := range edges {
					encoded(t, code.Word{Op: byte(op), Type: typ, D: d, A: a, B: edges[(op+int(d))%len(edges)], Imm: uint32(op) * 12345})
				}
			}
		}
		for _, imm := range []uint32{0, 1, 5, math.MaxInt32, 1 << 31, math.MaxUint32 - 1, math.MaxUint32} {
			for _, b := range edges {
				encoded(t, code.Word{Op: byte(op), B: b, Imm: imm})
				encoded(t, code.Word{Op: byte(op), Type: 15, D: 15, A: 15, B: b, Imm: imm})
			}
		}
	}
	for field := range 256 {
		n := byte(field)
		for _, w := range []code.Word{{Type: n}, {D: n}, {A: n}, {B: n}} {
			encoded(t, w)
		}
	}
}

// P24.1: each of the 8 bits that must be 0, alone and with others, in words of any kind; a word that is taken apart is put together again.
func TestDecode(t *testing.T) {
	r := rand.New(rand.NewSource(24))
	words := []uint64{0, math.MaxUint64, 0x1441000000000005, 1 << 31, 1 << 40, 1 << 63, math.MaxUint32}
	for range 20000 {
		words = append(words, r.Uint64(), r.Uint64()&^(0xff<<32))
	}
	for _, v := range words {
		right := v/(1<<40)*(1<<40) + v%(1<<32)
		w, e := code.Decode(right)
		if e != api.OK || word(w) != right || !within(w) {
			t.Fatalf("Decode(%x) = %v, %d", right, w, e)
		}
		if back, e := code.Encode(w); back != right || e != api.OK {
			t.Fatalf("Encode(%v) = %x, %d; want %x", w, back, e, right)
		}
		if v != right {
			if w, e := code.Decode(v); w != (code.Word{}) || e != api.ErrForm {
				t.Fatalf("Decode(%x) = %v, %d", v, w, e)
			}
		}
		for bit := 32; bit < 40; bit++ {
			if w, e := code.Decode(right + 1<<bit); w != (code.Word{}) || e != api.ErrForm {
				t.Fatalf("Decode(%x) = %v, %d", right+1<<bit, w, e)
			}
		}
	}
}
