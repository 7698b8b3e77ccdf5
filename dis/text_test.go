package dis_test

import (
	"fmt"
	"slices"
	"strings"
	"testing"

	"inlay/api"
	"inlay/dis"
	"inlay/instr"
)

func TestHeadOfNamedFunctions(t *testing.T) { // P18.1
	for _, x := range []struct {
		f    api.Func
		want string
	}{
		{api.Func{Name: "f"}, "func f - - -"},
		{api.Func{Name: "f", Inner: true}, "func f - - - -"},
		{api.Func{Name: "f", Params: types{1}}, "func f i - -"},
		{api.Func{Name: "f", Results: types{1}}, "func f - i -"},
		{api.Func{Name: "f", Locals: types{1}}, "func f - - i"},
		{api.Func{Name: "f", Inner: true, Outer: types{1}}, "func f - - - i"},
		{api.Func{Name: "f", Params: types{2}}, "func f c - -"},
		{api.Func{Name: "f", Results: types{2}}, "func f - c -"},
		{api.Func{Name: "f", Locals: types{2}}, "func f - - c"},
		{api.Func{Name: "f", Inner: true, Outer: types{2}}, "func f - - - c"},
		{api.Func{Name: "f", Params: types{1}, Results: types{2}, Locals: types{1, 2}}, "func f i c ic"},
		{api.Func{Name: "step_2", Inner: true, Params: types{1, 2}, Results: types{2, 1}, Locals: types{1, 1, 2}, Outer: types{2, 2, 1}}, "func step_2 ic ci iic cci"},
		{api.Func{Name: "func"}, "func func - - -"},
		{api.Func{Name: "end", Inner: true, Params: types{1}}, "func end i - - -"},
		{api.Func{Name: "abcdefghijkl", Params: times(8, api.Int), Results: times(4, api.Cx)}, "func abcdefghijkl iiiiiiii cccc -"},
		{api.Func{Name: "z_0", Inner: true, Locals: times(256, api.Cx), Outer: times(4, api.Int)}, "func z_0 - - " + strings.Repeat("c", 256) + " iiii"},
	} {
		headIs(t, x.f, x.want)
	}
}

// lists tells lists of types: of none, of one, of many.
func lists() []types {
	return []types{nil, {}, {1}, {2}, {1, 2}, {2, 1}, {1, 1, 1, 1}, times(8, api.Cx), slices.Repeat(types{1, 2}, 128)}
}

func TestHeadOfEachList(t *testing.T) { // P18.1: each stands in its place, Outer only of an Inner one
	for _, params := range lists() {
		for _, results := range lists() {
			for _, locals := range lists() {
				want := "func f " + letters(params) + " " + letters(results) + " " + letters(locals)
				for _, outer := range lists() {
					f := api.Func{Name: "f", Params: params, Results: results, Locals: locals, Outer: outer}
					headIs(t, f, want)
					f.Inner = true
					headIs(t, f, want+" "+letters(outer))
				}
			}
		}
	}
}

func TestHeadOfNames(t *testing.T) { // P18.1: whether they may be or not
	for _, name := range []string{"", "f", "func", "end", "-", " ", "a b", "F", "0", "abcdefghijklm", "é", "\xff", "\n", "f\n", "\x00", "%d", "%s", `\n`, strings.Repeat("x", 70000)} {
		headIs(t, api.Func{Name: name}, "func "+name+" - - -")
		headIs(t, api.Func{Name: name, Inner: true, Outer: types{2}}, "func "+name+" - - - c")
		funcIs(t, api.Func{Name: name}, "func "+name+" - - -", "end")
	}
}

func TestHeadOfTypesThatMayNotBe(t *testing.T) { // P18.1
	for _, n := range []api.Type{0, 3, -1, 255, 257, 1<<32 + 1, least, greatest} {
		headIs(t, api.Func{Name: "f", Params: types{n}}, "func f ? - -")
		headIs(t, api.Func{Name: "f", Results: types{1, n}}, "func f - i? -")
		headIs(t, api.Func{Name: "f", Locals: types{n, 2, n}}, "func f - - ?c?")
		headIs(t, api.Func{Name: "f", Outer: types{n}}, "func f - - -")
		headIs(t, api.Func{Name: "f", Outer: types{n, n}, Inner: true}, "func f - - - ??")
	}
}

func TestHeadHangsOnNothingElse(t *testing.T) { // P18.1: not on instructions, lines and tables
	for _, f := range all() {
		g := api.Func{Name: f.Name, Inner: f.Inner, Outer: f.Outer, Params: f.Params, Results: f.Results, Locals: f.Locals}
		headIs(t, f, dis.Head(g))
	}
}

func TestFuncOfNamedFunctions(t *testing.T) { // P18.1
	funcIs(t, api.Func{Name: "f"}, "func f - - -", "end")
	funcIs(t, plain("f"), "func f - - -", "1 ret", "end")
	funcIs(t, whole(), "func step_2 cii i cc ic", "7 push -3", "7 store 3", "9 open 1", "65535 load 1", "0 close 1", "9 ret", "end")
	is(t, "Func", plain("f"), dis.Func(plain("f")), "func f - - -\n1 ret\nend\n")
	is(t, "Func", api.Func{Name: "g", Inner: true}, dis.Func(api.Func{Name: "g", Inner: true}), "func g - - - -\nend\n")
}

func TestFuncOfEachInstruction(t *testing.T) { // P18.1: with a number behind it, and without
	for op, w := range words() {
		for _, a := range []int{0, 1, 3, 4, 39, 40, 119, 120, 255, 256, 1999, 2000, -1, -120, least, greatest} {
			i := api.Instr{Op: api.Op(op), A: a}
			want := "5 "
			switch {
			case w.many == 0 && a == 0:
				want = "5 " + w.name
			case w.many == anyNumber, 0 <= a && a < w.many:
				want = fmt.Sprint("5 ", w.name, " ", a)
			}
			f := api.Func{Name: "f", Code: []api.Instr{i}, Lines: []int{5}}
			funcIs(t, f, "func f - - -", want, "end")
			funcIs(t, f, "func f - - -", "5 "+instr.Text(i), "end")
		}
	}
}

func TestFuncOfInstructionsThatMayNotBe(t *testing.T) { // P18.1: of such instr has no text; the line and the blank stay
	for _, i := range []api.Instr{{Op: api.Ops}, {Op: -1}, {Op: 36}, {Op: 256}, {Op: 256 + api.Ret}, {Op: 1<<32 + api.Ret}, {Op: api.Op(least)}, {Op: api.Op(greatest)}, {Op: api.Ret, A: 1}, {Op: api.Nop, A: -1}, {Op: api.Load, A: -1}, {Op: api.Jump, A: 2000}} {
		f := api.Func{Name: "f", Code: []api.Instr{{Op: api.Dup}, i, {Op: api.Ret}}, Lines: []int{1, 22, 3}}
		funcIs(t, f, "func f - - -", "1 dup", "22 ", "3 ret", "end")
	}
}

func TestFuncOfLines(t *testing.T) { // P18.1: each instruction's own; several of one line stand there as many times
	for _, l := range [][]int{
		{0}, {1}, {65535}, {0, 0}, {1, 1, 1}, {65535, 65535}, {0, 1, 65535}, {65535, 1, 0}, {7, 7, 9, 7, 7}, {10, 100, 1000, 10000, 9, 99, 999, 9999}, times(2000, 65535),
	} {
		f := api.Func{Name: "f", Lines: l}
		want := []string{"func f - - -"}
		for k, n := range l {
			i := []api.Instr{{Op: api.Ret}, {Op: api.Push, A: n}}[k%2]
			f.Code = append(f.Code, i)
			want = append(want, fmt.Sprint(n, " ", []string{"ret", fmt.Sprint("push ", n)}[k%2]))
		}
		funcIs(t, f, append(want, "end")...)
	}
}

func TestFuncOfOtherLinesThanInstructions(t *testing.T) { // P18.1: line 0 where there is none; what is more counts for nothing
	f := plain("f")
	f.Code = []api.Instr{{Op: api.Dup}, {Op: api.Pop}, {Op: api.Ret}}
	f.Lines = nil
	funcIs(t, f, "func f - - -", "0 dup", "0 pop", "0 ret", "end")
	f.Lines = []int{8}
	funcIs(t, f, "func f - - -", "8 dup", "0 pop", "0 ret", "end")
	f.Lines = []int{8, 9, 10, 11, 12}
	funcIs(t, f, "func f - - -", "8 dup", "9 pop", "10 ret", "end")
	f.Lines = []int{-1, least, greatest}
	funcIs(t, f, "func f - - -", "-1 dup", "-9223372036854775808 pop", "9223372036854775807 ret", "end")
	f.Code = nil
	funcIs(t, f, "func f - - -", "end")
}

func TestFuncOfMany(t *testing.T) { // P18.1: in their order
	for _, n := range []int{1, 2, 3, 63, 64, 65, 1999, 2000, 2001, 70000} {
		f := api.Func{Name: "f"}
		want := []string{"func f - - -"}
		for k := range n {
			f.Code, f.Lines = append(f.Code, api.Instr{Op: api.Push, A: k}), append(f.Lines, 3*k)
			want = append(want, fmt.Sprintf("%d push %d", 3*k, k))
		}
		funcIs(t, f, append(want, "end")...)
	}
}

func TestFuncEndsEachLine(t *testing.T) { // P18.1: by a byte 10, the last one too, and by nothing else
	d := dice(7)
	for range 300 {
		f := d.function("f")
		s := dis.Func(f)
		if n := strings.Count(s, "\n"); n != len(f.Code)+2 || !strings.HasSuffix(s, "\nend\n") || strings.Contains(s, "\n\n") || strings.Contains(s, "\r") || strings.Contains(s, " \n") {
			t.Errorf("Func of %s: %d lines: %s", show(f), n, short(s))
		}
		if !strings.HasPrefix(s, dis.Head(f)+"\n") || strings.Contains(dis.Head(f), "\n") {
			t.Errorf("Func of %s: begins otherwise than Head: %s", show(f), short(s))
		}
	}
}

func TestFuncHangsOnNoTables(t *testing.T) { // P18.1
	for _, f := range all() {
		g := f
		g.Nodes, g.At, g.Live = nil, nil, nil
		is(t, "Func", f, dis.Func(f), dis.Func(g))
		is(t, "Text", f, dis.Text(program(f)), dis.Text(program(g)))
	}
}

func TestTextOfNamedPrograms(t *testing.T) { // P18.1
	textIs(t, api.Program{}, "")
	textIs(t, program([]api.Func{}...), "")
	textIs(t, program(api.Func{}), "func  - - -\nend\n")
	textIs(t, program(plain("f")), "func f - - -\n1 ret\nend\n")
	textIs(t, program(plain("b"), api.Func{Name: "a", Inner: true}, plain("c")), "func b - - -\n1 ret\nend\nfunc a - - - -\nend\nfunc c - - -\n1 ret\nend\n")
	textIs(t, program(plain("f"), plain("f")), "func f - - -\n1 ret\nend\nfunc f - - -\n1 ret\nend\n")
}

func TestTextOfAny(t *testing.T) { // P18.1: of none, of one, of some, of 40 and more, in their order
	d := dice(4)
	for n := range 45 {
		for range 3 {
			p := d.program(n)
			each := ""
			for _, f := range p.Funcs {
				each += dis.Func(f)
			}
			textIs(t, p, each)
			textIs(t, p, written(p))
			slices.Reverse(p.Funcs)
			textIs(t, p, written(p))
		}
		textIs(t, row(n), written(row(n)))
	}
}

func TestTextOfTheGreatest(t *testing.T) { // P18.1: as much as may be of all, and more
	f := api.Func{Inner: true, Outer: times(4, api.Cx), Params: times(8, api.Int), Results: times(4, api.Int), Locals: times(244, api.Cx)}
	f.Code, f.Lines = times(2000, api.Instr{Op: api.Push, A: least}), times(2000, 65535)
	var p api.Program
	want := ""
	for k := range 60 {
		f.Name = fmt.Sprintf("abcdefghij%02d", k)
		p.Funcs = append(p.Funcs, f)
		want += "func " + f.Name + " iiiiiiii iiii " + strings.Repeat("c", 244) + " cccc\n" + strings.Repeat("65535 push -9223372036854775808\n", 2000) + "end\n"
		if n := k + 1; n == 1 || n == 40 || n == 41 || n == 60 {
			textIs(t, p, want)
		}
	}
}

// FuzzFunc holds all that is told of functions, whatever they are, against the chapter.
func FuzzFunc(f *testing.F) {
	for k := range 10 {
		f.Add(uint64(k), "f", k%2 == 0, []byte{1, 2, 0, 3}, []byte{25, 0, 1, 7, 2, 255, 21, 9}, []byte{0, 1, 7, 255}, []byte{1, 0, 9, 3, 1})
	}
	f.Fuzz(func(t *testing.T, of uint64, name string, inner bool, kinds, code, lines, at []byte) {
		d := dice(of)
		g := api.Func{Name: name, Inner: inner, Nodes: d.nodes(d.roll(9) + 1)[d.roll(2):]}
		for k, b := range kinds {
			to := []*types{&g.Outer, &g.Params, &g.Results, &g.Locals}[k%4]
			*to = append(*to, api.Type(b))
		}
		for k := 0; k+1 < len(code); k += 2 {
			g.Code = append(g.Code, api.Instr{Op: api.Op(int8(code[k])), A: int(int8(code[k+1])) * (1 + d.roll(9))})
		}
		for _, b := range lines {
			g.Lines = append(g.Lines, int(b)*d.roll(300)-1)
		}
		for _, b := range at {
			g.At = append(g.At, int(int8(b)))
			g.Live = append(g.Live, set(int(b), d.roll(256), d.roll(256)))
		}
		holds(t, g)
		g.Nodes, g.At, g.Live = nil, nil, nil
		holds(t, g)
	})
}
