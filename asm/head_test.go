package asm

import (
	"strconv"
	"strings"
	"testing"

	"intaglio/api"
)

// P7.1: the chapter's examples.
func TestHeadExamples(t *testing.T) {
	holdHead(t, "module 0 5", api.Head{Bound: 5}, api.Spot{})
	holdHead(t, "module 0", api.Head{}, spot(api.ErrEarly, 8))
	holdHead(t, "module 0 0", api.Head{}, spot(api.ErrBound, 9))
	holdHead(t, "module 0 1 2", api.Head{}, spot(api.ErrLine, 11))
	holdHead(t, "Module 0 1", api.Head{}, spot(api.ErrLine, 0))
}

// P7.1: heads.
func TestHead(t *testing.T) {
	for line, want := range map[string]api.Head{
		"module 9 5":                   {Generator: 9, Bound: 5},
		"module 0 1":                   {Bound: 1},
		"module 0 65536":               {Bound: api.MaxBound},
		"module 4294967295 65535":      {Generator: 4294967295, Bound: 65535},
		"module -1 2":                  {Generator: 4294967295, Bound: 2},
		"module -2147483648 2":         {Generator: 1 << 31, Bound: 2},
		"module 0xfF 0x10":             {Generator: 255, Bound: 16},
		"module 0x0 0x00010000":        {Bound: api.MaxBound},
		" module\t7\r5 ":               {Generator: 7, Bound: 5},
		"module 7 5;8":                 {Generator: 7, Bound: 5},
		"module 7 5 ; module 0 0 \x00": {Generator: 7, Bound: 5},
		"module-7 5":                   {Generator: 4294967289, Bound: 5},
	} {
		holdHead(t, line, want, api.Spot{})
	}
}

// P7.1: each fault, at its place.
func TestHeadRefuses(t *testing.T) {
	for line, fault := range map[string]api.Spot{
		// Lex's.
		"module 0 .":             spot(api.ErrSign, 9),
		"module 0 5\n":           spot(api.ErrSign, 10),
		"module 007 5":           spot(api.ErrNumber, 7),
		"module 0 -0":            spot(api.ErrNumber, 9),
		"module 4294967296 5":    spot(api.ErrNumber, 7),
		"module 0 0x":            spot(api.ErrNumber, 9),
		"module %x 5":            spot(api.ErrNumber, 7),
		"module \"a 5":           spot(api.ErrString, 7),
		"Module 0 0 7 \x01":      spot(api.ErrSign, 13),
		"7 7 7 7 %":              spot(api.ErrNumber, 8),
		"module 0 5 0x123456789": spot(api.ErrNumber, 11),
		// A first token that is not the word module.
		"Module 0 5":     spot(api.ErrLine, 0),
		"MODULE 0 5":     spot(api.ErrLine, 0),
		"modul 0 5":      spot(api.ErrLine, 0),
		"modules 0 5":    spot(api.ErrLine, 0),
		"module0 5":      spot(api.ErrLine, 0),
		"_ 0 5":          spot(api.ErrLine, 0),
		"  OpReturn":     spot(api.ErrLine, 2),
		"x":              spot(api.ErrLine, 0),
		"7 0 5":          spot(api.ErrLine, 0),
		"%7 0 5":         spot(api.ErrLine, 0),
		"= 0 5":          spot(api.ErrLine, 0),
		"\"module\" 0 5": spot(api.ErrLine, 0),
		"%3 = module":    spot(api.ErrLine, 0),
		// One of another kind than a number.
		"module module 5":     spot(api.ErrLine, 7),
		"module %0 5":         spot(api.ErrLine, 7),
		"module \"0\" 5":      spot(api.ErrLine, 7),
		"module = 5":          spot(api.ErrLine, 7),
		"module =":            spot(api.ErrLine, 7),
		"module 0 five":       spot(api.ErrLine, 9),
		"module 0 %5":         spot(api.ErrLine, 9),
		"module 0 \"5\"":      spot(api.ErrLine, 9),
		"module 0  = 5":       spot(api.ErrLine, 10),
		"module 0 %70000":     spot(api.ErrLine, 9),
		"module x %0 y":       spot(api.ErrLine, 7),
		"module 0 x 5 5":      spot(api.ErrLine, 9),
		"module \t 0\t\t= 5 ": spot(api.ErrLine, 12),
		// A fourth one.
		"module 0 5 5":       spot(api.ErrLine, 11),
		"module 0 5 x":       spot(api.ErrLine, 11),
		"module 0 5 %5":      spot(api.ErrLine, 11),
		"module 0 5=":        spot(api.ErrLine, 10),
		"module 0 5 \"\"":    spot(api.ErrLine, 11),
		"module 0 5 6 7 8 9": spot(api.ErrLine, 11),
		// The bound.
		"module 0 0":             spot(api.ErrBound, 9),
		"module 0 0x0":           spot(api.ErrBound, 9),
		"module 0 65537":         spot(api.ErrBound, 9),
		"module 0 0x10001":       spot(api.ErrBound, 9),
		"module 0 -1":            spot(api.ErrBound, 9),
		"module 0 4294967295":    spot(api.ErrBound, 9),
		"module 0 0 7":           spot(api.ErrBound, 9),
		"module 70000 65537 x =": spot(api.ErrBound, 13),
		// Too early.
		"":              spot(api.ErrEarly, 0),
		"   ":           spot(api.ErrEarly, 3),
		"; module 0 5":  spot(api.ErrEarly, 12),
		"module":        spot(api.ErrEarly, 6),
		"module 0":      spot(api.ErrEarly, 8),
		"module 0 ":     spot(api.ErrEarly, 9),
		"module 0 ;5":   spot(api.ErrEarly, 11),
		" module ; 0 5": spot(api.ErrEarly, 13),
		"module -1\r":   spot(api.ErrEarly, 10),
	} {
		holdHead(t, line, api.Head{}, fault)
	}
}

// P7.1: every bound near the limits.
func TestHeadBounds(t *testing.T) {
	for _, n := range []int{0, 1, 2, 3, 255, 256, 65534, 65535, 65536, 65537, 65538, 131072, 1 << 31, 1<<32 - 1} {
		line := "module 3 " + strconv.Itoa(n)
		if 1 <= n && n <= 65536 {
			holdHead(t, line, api.Head{Generator: 3, Bound: uint32(n)}, api.Spot{})
		} else {
			holdHead(t, line, api.Head{}, spot(api.ErrBound, 9))
		}
	}
}

// P7.1: every line of some pieces, up to five of them, and lines of any bytes, held against the chapter's words.
func TestHeadOfEveryLine(t *testing.T) {
	hold := func(line string) {
		want, fault := saidHead(line)
		if h, s := Head(line); h != want || s != fault {
			t.Fatalf("Head(%q): %v, %v; not %v, %v", line, h, s, want, fault)
		}
	}
	everyRow([]string{"module", "modul", "%1", "0", "7", "65536", "65537", "=", `"module"`, ";", "."}, 5, func(l []string) {
		hold(strings.Join(l, " "))
	})
	d := dice(71)
	for range 20000 {
		hold(d.bytes(10))
		hold(d.of("module", "module ", " module\t", "m") + d.bytes(6))
	}
}
