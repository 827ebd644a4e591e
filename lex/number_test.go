package lex

import (
	"math/big"
	"strconv"
	"strings"
	"testing"

	"intaglio/api"
)

// P6.3: the numbers that texts say.
func TestNumber(t *testing.T) {
	for _, c := range []struct {
		s string
		n uint32
	}{
		{"0", 0}, {"1", 1}, {"9", 9}, {"10", 10}, {"100", 100}, {"1234567890", 1234567890},
		{"2147483647", 1<<31 - 1}, {"2147483648", 1 << 31}, {"4294967294", 1<<32 - 2}, {"4294967295", 1<<32 - 1},
		{"-1", 1<<32 - 1}, {"-2", 1<<32 - 2}, {"-10", 1<<32 - 10}, {"-2147483647", 1<<31 + 1}, {"-2147483648", 1 << 31},
		{"0x0", 0}, {"0x9", 9}, {"0xa", 10}, {"0xA", 10}, {"0xf", 15}, {"0xF", 15}, {"0xfF", 255},
		{"0x00", 0}, {"0x0f", 15}, {"0x00000000", 0}, {"0x00000001", 1}, {"0x1234567", 0x1234567}, {"0x12345678", 0x12345678},
		{"0x9abcdefA", 0x9abcdefa}, {"0xBCDEF", 0xbcdef}, {"0x7fffffff", 1<<31 - 1}, {"0x80000000", 1 << 31}, {"0xffffffff", 1<<32 - 1}, {"0xFFFFFFFF", 1<<32 - 1},
	} {
		if n, e := Number(c.s); n != c.n || e != api.OK {
			t.Errorf("%s: %d, %d", c.s, n, e)
		}
	}
}

// P6.3: texts that are no number's; R2: nothing beside the error.
func TestNumberRefuses(t *testing.T) {
	for _, s := range []string{
		"", "-", "+", "+1", "x", "a", "_", "%1", "=", "\"1\"",
		"4294967296", "4294967300", "9999999999", "42949672950", "18446744073709551616", "18446744073709551617", "340282366920938463463374607431768211456",
		"00", "01", "007", "000", "00000000001", "-0", "-00", "-01", "-2147483649", "-4294967295", "-4294967296", "-18446744073709551617",
		"0x", "0X", "0X1", "x1", "0x123456789", "0x000000000", "0x000000001", "0xfffffffff", "0x10000000000000001",
		"0xg", "0xG", "0x1g", "0xg1", "0x@", "0x`", "0x/", "0x:", "0x_1", "0x1_", "0x 1", "0x1 ", "0x-1", "0x+1", "0x0x1", "00x1", "1x1", "-0x1", "-0xf",
		"--1", "-+1", "- 1", "1-", "1-1", "-a", "-1a",
		" 1", "1 ", "1\n", "\n1", "1\x00", "\x001", "\t1", "1\r", " ", "\n", "\x00",
		"1x", "1_0", "_1", "1a", "1,0", "1.0", "1e1", "0b1", "0o7", "/", ":", "1/", "1:", "/1", ":1",
		"\u0661", "\uff11", "1\u0661", "\xb1", "\xff", "\x80", "0x\xe1", "é",
	} {
		if n, e := Number(s); n != 0 || e != api.ErrNumber {
			t.Errorf("%q: %d, %d", s, n, e)
		}
	}
}

// holdNumber holds Number of a text against what the patterns say.
func holdNumber(t *testing.T, s string) {
	t.Helper()
	want, fault := uint32(0), api.ErrNumber
	if said := saidNumber(s); said != nil {
		want, fault = uint32(said.Uint64()), api.OK
	}
	if n, e := Number(s); n != want || e != fault {
		t.Fatalf("%q: %d, %d; not %d, %d", s, n, e, want, fault)
	}
}

// P6.3: every text of some pieces up to a length.
func TestNumberOfEveryText(t *testing.T) {
	everyRow([]string{"0", "1", "9", "x", "a", "F", "g", "-", "_", "4294967295", "2147483648"}, 5, func(s string) { holdNumber(t, s) })
}

// P6.3: each of the 256 bytes alone, and at each place of numbers.
func TestNumberOfEveryByte(t *testing.T) {
	for c := range 256 {
		s := string([]byte{byte(c)})
		for _, more := range []string{"", "5", "-5", "0x5", "-", "0x", "0"} {
			holdNumber(t, s+more)
			holdNumber(t, more+s)
			holdNumber(t, more+s+"1")
		}
	}
}

// P6.3: numbers around the bounds, written in each of the ways.
func TestNumberAroundBounds(t *testing.T) {
	for power := range 80 {
		for less := int64(-12); less <= 12; less++ {
			n := new(big.Int).Lsh(big.NewInt(1), uint(power))
			n.Add(n, big.NewInt(less))
			if n.Sign() < 0 {
				continue
			}
			plain, hex := n.String(), n.Text(16)
			for _, s := range []string{plain, "-" + plain, "0" + plain, "+" + plain, "0x" + hex, "0x" + strings.ToUpper(hex), "0x0" + hex, "0X" + hex, "-0x" + hex, hex} {
				holdNumber(t, s)
			}
		}
	}
	for digits := range 400 {
		for _, d := range []string{"0", "1", "9", "f"} {
			holdNumber(t, strings.Repeat(d, digits))
			holdNumber(t, "-"+strings.Repeat(d, digits))
			holdNumber(t, "0x"+strings.Repeat(d, digits))
		}
	}
}

// P6.3: numbers by chance are said as they are written.
func TestNumberSaysWhatIsWritten(t *testing.T) {
	d := dice(63)
	for range 20000 {
		n := uint32(d.below(1<<31)) << d.below(2) >> d.below(32)
		hold := func(s string) {
			if x, e := Number(s); x != n || e != api.OK {
				t.Fatalf("%s: %d, %d", s, x, e)
			}
		}
		hold(strconv.FormatUint(uint64(n), 10))
		hold("0x" + strconv.FormatUint(uint64(n), 16))
		hold("0x" + strings.ToUpper(strconv.FormatUint(uint64(n), 16)))
		if n >= 1<<31 {
			hold("-" + strconv.FormatUint(1<<32-uint64(n), 10))
		}
	}
}

// P6.3, R1: texts of very many digits.
func TestNumberOfLargeTexts(t *testing.T) {
	for _, c := range []string{"0", "1", "9", "f", "-", "x"} {
		many := strings.Repeat(c, 1<<22)
		for _, s := range []string{many, "-" + many, "0x" + many, "1" + many, many + "1"} {
			if n, e := Number(s); n != 0 || e != api.ErrNumber {
				t.Errorf("many %s: %d, %d", c, n, e)
			}
		}
	}
}
