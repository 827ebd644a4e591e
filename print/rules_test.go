package print

import (
	"math"
	"slices"
	"strings"
	"sync"
	"testing"

	"intaglio/api"
	"intaglio/code"
)

// anyInst is an instruction of any fields.
func (d *dice) anyInst() api.Inst {
	i := api.Inst{Op: uint16(d.below(1 << 16)), Type: d.number(), Result: d.number()}
	if d.below(4) > 0 {
		i.Op = uint16(d.below(256))
	}
	if d.below(2) == 0 {
		i.Type, i.Result = uint32(d.below(3)), uint32(d.below(3))
	}
	for range d.below(5) {
		i.Args = append(i.Args, api.Arg{Kind: uint8(d.below(6)), N: uint32(d.below(4)), S: d.of("", "", "", "a", "\x00")})
	}
	return i
}

// R1: every call ends, and none panics, whatever the module, the instruction, the bound or the bytes; R2: beside an error all else is zero.
func TestAnything(t *testing.T) {
	d := dice(88)
	right := 0
	for range 60000 {
		i, bound := d.anyInst(), []uint32{0, 1, 2, 9, api.MaxBound, math.MaxUint32}[d.below(6)]
		s, e := Line(i, bound)
		if (e == api.OK) != (s != "") {
			t.Fatalf("Line(%v, %d): %q, %d", i, bound, s, e)
		}
		if e == api.OK {
			right++
		}
		m := module(d.number(), bound, i, d.anyInst())
		if s, e := Text(m); (e.Err == api.OK) != (s != "") || e.Err == api.OK && e.At != 0 {
			t.Fatalf("Text(%v): %q, %v", m, s, e)
		}
		b := bytesOf(head(9)...)
		if d.below(4) == 0 {
			b = nil
		}
		b = append(b, d.text(24)...)
		if s, e := Bytes(b); (e.Err == api.OK) != (s != "") {
			t.Fatalf("Bytes(%x): %q, %v", b, s, e)
		}
	}
	if right < 50 {
		t.Errorf("%d lines", right)
	}
}

// roomy is a list with room behind its end in which something stands.
func roomy(l []api.Arg) []api.Arg {
	more := append(slices.Clone(l), aText("behind"), anId(77))
	return more[:len(l)]
}

// R3: what is handed in is not changed, the room behind a list's end neither.
func TestNothingChanged(t *testing.T) {
	all := samples()
	given := make([]api.Inst, len(all), len(all)+2)
	for at, i := range all {
		given[at] = copied(i)
		given[at].Args = roomy(i.Args)
	}
	given[:cap(given)][len(given)] = inst(77, 7, 7)
	m := module(7, sampleBound, given...)
	m.Insts = given
	if _, s := Text(m); s != (api.Spot{}) {
		t.Fatalf("Text: %v", s)
	}
	for _, i := range given {
		if _, e := Line(i, sampleBound); e != api.OK {
			t.Fatalf("Line: %d", e)
		}
		Line(i, 2)
	}
	Text(module(7, 2, given...))
	if !code.Same(m, module(7, sampleBound, all...)) {
		t.Error("what was handed in is changed")
	}
	if given[:cap(given)][len(given)].Op != 77 {
		t.Error("the room behind the instructions is changed")
	}
	for at, i := range given {
		behind := i.Args[:len(i.Args)+2][len(i.Args):]
		if !slices.Equal(behind, []api.Arg{aText("behind"), anId(77)}) {
			t.Fatalf("the room behind the arguments of %d is changed: %v", at, behind)
		}
	}
	b, _ := code.Encode(m)
	kept := slices.Clone(b)
	room := append(b, 1, 2, 3)
	if Bytes(room[:len(b)]); !slices.Equal(room[:len(b)], kept) || !slices.Equal(room[len(b):], []byte{1, 2, 3}) {
		t.Error("the bytes are changed")
	}
}

// R3: what is handed in is not kept: writing over it changes no answer.
func TestNothingKept(t *testing.T) {
	m := module(7, sampleBound, samples()...)
	for at := range m.Insts {
		m.Insts[at] = copied(m.Insts[at])
	}
	want := saidText(m)
	b, _ := code.Encode(m)
	s, _ := Text(m)
	line, _ := Line(m.Insts[2], sampleBound)
	of := saidLine(m.Insts[2])
	whole, _ := Bytes(b)
	clear(b)
	for at := range m.Insts {
		clear(m.Insts[at].Args)
	}
	clear(m.Insts)
	if s != want || whole != want || line != of {
		t.Error("an answer shares memory with what was handed in")
	}
}

// R5: what is answered hangs on the arguments alone, whatever was asked ahead, and whoever asks at the same time.
func TestAnswersHangOnArguments(t *testing.T) {
	m := module(7, sampleBound, samples()...)
	want := saidText(m)
	b, _ := code.Encode(m)
	var done sync.WaitGroup
	for range 8 {
		done.Go(func() {
			for range 20 {
				if s, e := Text(m); s != want || e != (api.Spot{}) {
					t.Errorf("Text: %v", e)
				}
				if s, e := Bytes(b); s != want || e != (api.Spot{}) {
					t.Errorf("Bytes: %v", e)
				}
				if _, e := Bytes(b[:len(b)-3]); e != spot(api.ErrLength, 0) {
					t.Errorf("Bytes: %v", e)
				}
				if s, e := Line(m.Insts[1], sampleBound); s != saidLine(m.Insts[1]) || e != api.OK {
					t.Errorf("Line: %q, %d", s, e)
				}
				if s, e := Line(inst(22, 0, 0), 9); s != "" || e != api.ErrOp {
					t.Errorf("Line: %q, %d", s, e)
				}
			}
		})
	}
	done.Wait()
}

// R1: instructions and modules of very many arguments and instructions, and of texts as long as a text may be.
func TestLarge(t *testing.T) {
	holdFault(t, inst(7, 0, 1, aText(strings.Repeat("\xff", api.MaxText))), 2, api.ErrCount)
	holdFault(t, inst(30, 0, 1, slices.Repeat([]api.Arg{anId(1)}, 1<<21)...), 2, api.ErrCount)
	holdFault(t, inst(253, 0, 0, slices.Repeat([]api.Arg{anId(1)}, 1<<21)...), 2, api.ErrOperand)
	holdRefused(t, module(0, 2, slices.Repeat([]api.Inst{inst(253, 0, 0)}, 1<<22)...), spot(api.ErrLarge, api.MaxWords-5))
	if s, e := Bytes(make([]byte, 1<<24)); s != "" || e.Err == api.OK {
		t.Errorf("Bytes: %d bytes, %v", len(s), e)
	}
}
