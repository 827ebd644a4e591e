package asm

import (
	"math"
	"strings"
	"sync"
	"testing"
	"unsafe"

	"intaglio/api"
)

// R1: every call ends, and none panics, at any bytes and any bound; R2: beside an error all else is zero.
func TestAnyBytes(t *testing.T) {
	d := dice(78)
	pieces := []string{"module", " 0", " 5", "\n", "%1", "=", "OpLabel", "OpPhi", " ", `"`, `\x00`, ";", "-", "0x", ".", "\x00", "\xff", "OpName"}
	for range 100000 {
		var b strings.Builder
		for range d.below(12) {
			b.WriteString(pieces[d.below(len(pieces))])
		}
		s := b.String() + d.bytes(3)
		if m, e := Parse(s); e.Err != api.OK && !alikeModules(m, api.Module{}) {
			t.Fatalf("Parse(%q): %v, %v", s, m, e)
		}
		if h, e := Head(s); e.Err != api.OK && h != (api.Head{}) {
			t.Fatalf("Head(%q): %v, %v", s, h, e)
		}
		bound := []uint32{0, 1, 2, 5, api.MaxBound, math.MaxUint32}[d.below(6)]
		if i, is, e := Line(s, bound); (e.Err != api.OK || !is) && (is || !alike(i, api.Inst{})) {
			t.Fatalf("Line(%q, %d): %v, %v, %v", s, bound, i, is, e)
		}
	}
}

// shares says whether a text is a piece of another one's memory.
func shares(s, of string) bool {
	if s == "" || of == "" {
		return false
	}
	from := uintptr(unsafe.Pointer(unsafe.StringData(s)))
	room := uintptr(unsafe.Pointer(unsafe.StringData(of)))
	return room <= from && from < room+uintptr(len(of))
}

// R3: texts that are answered are no pieces of what was handed in.
func TestTextsAnew(t *testing.T) {
	line := strings.Repeat(" ", 9) + `OpName %1 "some text"`
	if i, _, _ := Line(line, 5); len(i.Args) != 2 || shares(i.Args[1].S, line) {
		t.Errorf("Line: %v", i)
	}
	all := "module 0 5\n" + line
	if m, _ := Parse(all); len(m.Insts) != 1 || shares(m.Insts[0].Args[1].S, all) {
		t.Errorf("Parse: %v", m)
	}
}

// spoil writes over all that an instruction's list has, the room behind its end too.
func spoil(i api.Inst) {
	room := i.Args[:cap(i.Args)]
	for at := range room {
		room[at] = api.Arg{Kind: 77, N: 77, S: "other"}
	}
}

// R3: no two lists of one answer share memory, the room behind their ends neither, and no two answers do.
func TestListsApart(t *testing.T) {
	all := samples()
	whole := moduleText(7, sampleBound, all)
	want := moduleOf(7, sampleBound, all)
	first, _ := Parse(whole)
	for at := 0; at < len(all); at += 7 {
		m, _ := Parse(whole)
		spoil(m.Insts[at])
		m.Insts[at] = want.Insts[at]
		if !alikeModules(m, want) {
			t.Fatalf("the list of the instruction %d shares memory with another one", at)
		}
		clear(m.Insts[:cap(m.Insts)])
	}
	if !alikeModules(first, want) {
		t.Error("an answer shares memory with another one")
	}
	for _, s := range all {
		i, _, _ := Line(lineOf(s.tokens), sampleBound)
		again, _, _ := Line(lineOf(s.tokens), sampleBound)
		spoil(again)
		if !alike(i, s.inst) {
			t.Fatalf("%v shares memory with another answer", i)
		}
	}
}

// R5: what is answered hangs on the arguments alone, whatever was asked ahead, and whoever asks at the same time.
func TestAnswersHangOnArguments(t *testing.T) {
	all := samples()
	whole := moduleText(7, sampleBound, all)
	want := moduleOf(7, sampleBound, all)
	var done sync.WaitGroup
	for range 8 {
		done.Go(func() {
			for range 20 {
				if m, s := Parse(whole); s != (api.Spot{}) || !alikeModules(m, want) {
					t.Errorf("Parse: %v", s)
				}
				if _, s := Parse(whole + "OpStor"); s != spot(api.ErrName, len(all)+2) {
					t.Errorf("Parse: %v", s)
				}
				if h, s := Head("module 9 5"); h != (api.Head{Generator: 9, Bound: 5}) || s != (api.Spot{}) {
					t.Errorf("Head: %v, %v", h, s)
				}
				if _, _, s := Line("%9 = OpLabel", 9); s != spot(api.ErrId, 0) {
					t.Errorf("Line: %v", s)
				}
			}
		})
	}
	done.Wait()
}
