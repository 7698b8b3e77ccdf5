package asm_test

import (
	"fmt"
	"strings"
	"testing"

	"inlay/api"
	"inlay/asm"
	"inlay/instr"
)

// instrs tells of each Op those instructions that may be, with numbers around each end.
func instrs() []api.Instr {
	var l []api.Instr
	for op := range api.Ops {
		for _, a := range []int{0, 1, 2, 3, 4, 9, 10, 39, 40, 119, 120, 255, 256, 1999, 2000, -1, -2, 65536, least, least + 1, greatest} {
			if i := (api.Instr{Op: op, A: a}); instr.Right(i) {
				l = append(l, i)
			}
		}
	}
	return l
}

func TestLineOfEachInstruction(t *testing.T) { // P17.1
	ops := map[api.Op]bool{}
	for _, i := range instrs() {
		for _, n := range []int{0, 1, 2, 9, 10, 99, 100, 2000, 9999, 10000, 32767, 32768, 65534, 65535} {
			lineIs(t, fmt.Sprint(n, " ", instr.Text(i)), i, n, api.OK)
		}
		ops[i.Op] = true
	}
	if len(ops) != 35 {
		t.Errorf("%d instructions, want 35", len(ops))
	}
}

func TestLineOfEachLine(t *testing.T) { // P17.1
	for n := range 65536 {
		lineIs(t, fmt.Sprintf("%d push %d", n, -n), api.Instr{Op: api.Push, A: -n}, n, api.OK)
	}
	for n := 65536; n < 140000; n++ {
		lineFails(t, fmt.Sprint(n, " ret"), api.ErrLine)
	}
}

func TestLineOfNamedTexts(t *testing.T) { // P17.1
	for _, x := range []struct {
		s   string
		i   api.Instr
		n   int
		err api.Errno
	}{
		{"1 ret", api.Instr{Op: api.Ret}, 1, api.OK},
		{"0 nop", api.Instr{}, 0, api.OK},
		{"65535 push -3", api.Instr{Op: api.Push, A: -3}, 65535, api.OK},
		{"12 push 9223372036854775807", api.Instr{Op: api.Push, A: greatest}, 12, api.OK},
		{"12 push -9223372036854775808", api.Instr{Op: api.Push, A: least}, 12, api.OK},
		{"7 load 255", api.Instr{Op: api.Load, A: 255}, 7, api.OK},
		{"7 jump 1999", api.Instr{Op: api.Jump, A: 1999}, 7, api.OK},
		{"7 close 119", api.Instr{Op: api.Close, A: 119}, 7, api.OK},

		{"65536 ret", api.Instr{}, 0, api.ErrLine},
		{"65537 ret", api.Instr{}, 0, api.ErrLine},
		{"100000 ret", api.Instr{}, 0, api.ErrLine},
		{"4294967296 ret", api.Instr{}, 0, api.ErrLine},
		{"4294967297 ret", api.Instr{}, 0, api.ErrLine},
		{"9223372036854775807 ret", api.Instr{}, 0, api.ErrLine},
		{"9223372036854775808 ret", api.Instr{}, 0, api.ErrLine},
		{"18446744073709551615 ret", api.Instr{}, 0, api.ErrLine},
		{"18446744073709551616 ret", api.Instr{}, 0, api.ErrLine},
		{"18446744073709551617 ret", api.Instr{}, 0, api.ErrLine},
		{strings.Repeat("9", 500) + " ret", api.Instr{}, 0, api.ErrLine},
		{"-1 ret", api.Instr{}, 0, api.ErrLine},
		{"-2 ret", api.Instr{}, 0, api.ErrLine},
		{"-65535 ret", api.Instr{}, 0, api.ErrLine},
		{"-9223372036854775808 ret", api.Instr{}, 0, api.ErrLine},
		{"-9223372036854775809 ret", api.Instr{}, 0, api.ErrLine},

		{" ret", api.Instr{}, 0, api.ErrLine}, // no digits
		{"  ret", api.Instr{}, 0, api.ErrLine},
		{"- ret", api.Instr{}, 0, api.ErrLine},
		{"+ ret", api.Instr{}, 0, api.ErrLine},
		{"+1 ret", api.Instr{}, 0, api.ErrLine},
		{"+0 ret", api.Instr{}, 0, api.ErrLine},
		{"-0 ret", api.Instr{}, 0, api.ErrLine},
		{"00 ret", api.Instr{}, 0, api.ErrLine},
		{"01 ret", api.Instr{}, 0, api.ErrLine},
		{"-01 ret", api.Instr{}, 0, api.ErrLine},
		{"000000001 ret", api.Instr{}, 0, api.ErrLine},
		{"1a ret", api.Instr{}, 0, api.ErrLine},
		{"a1 ret", api.Instr{}, 0, api.ErrLine},
		{"1a1 ret", api.Instr{}, 0, api.ErrLine},
		{"a ret", api.Instr{}, 0, api.ErrLine},
		{"1e3 ret", api.Instr{}, 0, api.ErrLine},
		{"0x1 ret", api.Instr{}, 0, api.ErrLine},
		{"1_0 ret", api.Instr{}, 0, api.ErrLine},
		{"1. ret", api.Instr{}, 0, api.ErrLine},
		{"1, ret", api.Instr{}, 0, api.ErrLine},
		{"1: ret", api.Instr{}, 0, api.ErrLine},
		{"１ ret", api.Instr{}, 0, api.ErrLine},
		{"٣ ret", api.Instr{}, 0, api.ErrLine},
		{"1\xff ret", api.Instr{}, 0, api.ErrLine},
		{"\xff ret", api.Instr{}, 0, api.ErrLine},
		{"1\x00 ret", api.Instr{}, 0, api.ErrLine},
		{"\ufeff1 ret", api.Instr{}, 0, api.ErrLine},

		{"", api.Instr{}, 0, api.ErrLine},
		{" ", api.Instr{}, 0, api.ErrLine},
		{"  ", api.Instr{}, 0, api.ErrLine},
		{"1", api.Instr{}, 0, api.ErrLine}, // no blank
		{"0", api.Instr{}, 0, api.ErrLine},
		{"65536", api.Instr{}, 0, api.ErrLine},
		{"ret", api.Instr{}, 0, api.ErrLine},
		{"1ret", api.Instr{}, 0, api.ErrLine},
		{"1\tret", api.Instr{}, 0, api.ErrLine},
		{"1\nret", api.Instr{}, 0, api.ErrLine},
		{"1\u00a0ret", api.Instr{}, 0, api.ErrLine},
		{"1\tpush 3", api.Instr{}, 0, api.ErrLine},
		{"1 ", api.Instr{}, 0, api.ErrLine}, // nothing behind it
		{"0 ", api.Instr{}, 0, api.ErrLine},
		{"65535 ", api.Instr{}, 0, api.ErrLine},
		{"65536 ", api.Instr{}, 0, api.ErrLine},
		{"x ", api.Instr{}, 0, api.ErrLine},
		{" 1 ret", api.Instr{}, 0, api.ErrLine},
		{"ret 1", api.Instr{}, 0, api.ErrLine},
		{"end", api.Instr{}, 0, api.ErrLine},
		{"end ", api.Instr{}, 0, api.ErrLine},
		{"func f - - -", api.Instr{}, 0, api.ErrLine},

		{"1  ", api.Instr{}, 0, api.ErrOp}, // a blank stands behind it: a name of no letters
		{"1  ret", api.Instr{}, 0, api.ErrOp},
		{"1  push 3", api.Instr{}, 0, api.ErrOp},
		{"1 x", api.Instr{}, 0, api.ErrOp},
		{"1 Ret", api.Instr{}, 0, api.ErrOp},
		{"1 end", api.Instr{}, 0, api.ErrOp},
		{"1 1 ret", api.Instr{}, 0, api.ErrOp},
		{"1 ret\r", api.Instr{}, 0, api.ErrOp},
		{"1 ret\n", api.Instr{}, 0, api.ErrOp},
		{"1 \tret", api.Instr{}, 0, api.ErrOp},
		{"1 push\t3", api.Instr{}, 0, api.ErrOp},
		{"1 rét", api.Instr{}, 0, api.ErrOp},
		{"1 \xff", api.Instr{}, 0, api.ErrOp},
		{"1 push3", api.Instr{}, 0, api.ErrOp},
		{"1 x 99999999999999999999", api.Instr{}, 0, api.ErrOp},

		{"1 push", api.Instr{}, 0, api.ErrForm}, // it lacks its number
		{"1 jump", api.Instr{}, 0, api.ErrForm},
		{"1 push ", api.Instr{}, 0, api.ErrForm},
		{"1 push  3", api.Instr{}, 0, api.ErrForm},
		{"1 push 3 ", api.Instr{}, 0, api.ErrForm},
		{"1 push 3\r", api.Instr{}, 0, api.ErrForm},
		{"1 push 3\n", api.Instr{}, 0, api.ErrForm},
		{"1 push 03", api.Instr{}, 0, api.ErrForm},
		{"1 push +3", api.Instr{}, 0, api.ErrForm},
		{"1 push -0", api.Instr{}, 0, api.ErrForm},
		{"1 push x", api.Instr{}, 0, api.ErrForm},
		{"1 push ３", api.Instr{}, 0, api.ErrForm},
		{"1 push 9223372036854775808", api.Instr{}, 0, api.ErrForm},
		{"1 ret ", api.Instr{}, 0, api.ErrForm}, // it has one that it should not
		{"1 ret 0", api.Instr{}, 0, api.ErrForm},
		{"1 ret x", api.Instr{}, 0, api.ErrForm},

		{"1 jump 2000", api.Instr{}, 0, api.ErrArg},
		{"1 jump -1", api.Instr{}, 0, api.ErrArg},
		{"1 if 2000", api.Instr{}, 0, api.ErrArg},
		{"1 load 256", api.Instr{}, 0, api.ErrArg},
		{"1 store -1", api.Instr{}, 0, api.ErrArg},
		{"1 call 40", api.Instr{}, 0, api.ErrArg},
		{"1 defer 40", api.Instr{}, 0, api.ErrArg},
		{"1 getres 4", api.Instr{}, 0, api.ErrArg},
		{"1 open 120", api.Instr{}, 0, api.ErrArg},

		{"x y", api.Instr{}, 0, api.ErrLine}, // both are wrong
		{"65536 x", api.Instr{}, 0, api.ErrLine},
		{"65536 push", api.Instr{}, 0, api.ErrLine},
		{"65536 jump 2000", api.Instr{}, 0, api.ErrLine},
		{"-1 jump 2000", api.Instr{}, 0, api.ErrLine},
		{"01 ret 0", api.Instr{}, 0, api.ErrLine},
		{" x", api.Instr{}, 0, api.ErrLine},
		{" push", api.Instr{}, 0, api.ErrLine},
		{"65536  ", api.Instr{}, 0, api.ErrLine},
		{"99999999999999999999 load 256", api.Instr{}, 0, api.ErrLine},
	} {
		lineIs(t, x.s, x.i, x.n, x.err)
		if x.err != api.OK {
			if i, n, _ := asm.Line(x.s); i != (api.Instr{}) || n != 0 {
				t.Errorf("Line of %q: %v, line %d beside an error", x.s, i, n)
			}
		}
	}
}

func TestLineOfOneByteMore(t *testing.T) { // P17.1: each byte, at each place of a line that is right
	told := map[api.Errno]int{}
	for _, s := range []string{"1 ret", "65535 push -3", "0 jump 7", "40 store 10"} {
		for at := range len(s) + 1 {
			for b := range 256 {
				told[lineAs(t, s[:at]+string([]byte{byte(b)})+s[at:])]++
				if at < len(s) {
					told[lineAs(t, s[:at]+string([]byte{byte(b)})+s[at+1:])]++
				}
			}
			told[lineAs(t, s[:at])]++
			told[lineAs(t, s[at:])]++
		}
	}
	for _, err := range []api.Errno{api.OK, api.ErrLine, api.ErrOp, api.ErrForm, api.ErrArg} {
		if told[err] < 4 {
			t.Errorf("error %d: %d of them, too few to tell", err, told[err])
		}
	}
	if len(told) != 5 {
		t.Errorf("errors %v, want five", told)
	}
}

func TestLineOfOddParts(t *testing.T) { // P17.1
	for _, a := range odd() {
		lineAs(t, a)
		lineAs(t, a+" ret")
		lineAs(t, "1 "+a)
		lineAs(t, "1 push "+a)
		lineAs(t, "1"+a+"ret")
		lineAs(t, "1"+a+" ret")
		lineAs(t, "1 ret"+a)
		lineAs(t, a+"1 ret")
		for _, b := range []string{"65535", "65536", "push 1", "jump 2000", "x"} {
			lineAs(t, a+" "+b)
			lineAs(t, b+" "+a)
		}
	}
}

// FuzzLine holds what Line tells against the chapter.
func FuzzLine(f *testing.F) {
	for _, s := range []string{"1 ret", "65535 push -3", "65536 ret", "01 ret", "1  ret", "1 ", "1 jump 2000", "", " ", "1 ret\r"} {
		f.Add(s)
	}
	f.Fuzz(func(t *testing.T, s string) {
		lineAs(t, s)
	})
}
