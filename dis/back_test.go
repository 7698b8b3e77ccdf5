package dis_test

import (
	"bytes"
	"fmt"
	"slices"
	"strings"
	"testing"

	"inlay/api"
	"inlay/asm"
	"inlay/dis"
	"inlay/file"
)

// readsBack holds that p, which can be laid and has no tables, is read from its text as it was.
func readsBack(t *testing.T, p api.Program) {
	t.Helper()
	if err := file.Can(p); err != api.OK {
		t.Fatalf("%s can't be laid: error %d", show(p), err)
	}
	s := dis.Text(p)
	got, n, err := asm.Read(s)
	if n != 0 || err != api.OK {
		t.Errorf("Read of %s: number %d, error %d, want 0, OK", short(s), n, err)
		return
	}
	if !file.Same(got, p) {
		t.Errorf("Read of %s: %s, want %s", short(s), show(got), show(p))
	}
	is(t, "Text of what was read", p, dis.Text(got), s)
	laid, _ := file.Encode(p)
	if again, _ := file.Encode(got); !bytes.Equal(again, laid) {
		t.Errorf("Read of %s: laid as other bytes than what it is the text of", short(s))
	}
}

func TestBackOfAny(t *testing.T) { // P18.3: of one function, of some, of 40; Inner ones and others
	d := dice(18)
	inner, others := 0, 0
	for n := 1; n <= 40; n++ {
		readsBack(t, row(n))
		for range 6 {
			p := d.program(n)
			for _, f := range p.Funcs {
				if f.Inner {
					inner++
				} else {
					others++
				}
			}
			readsBack(t, p)
			slices.Reverse(p.Funcs)
			readsBack(t, p)
		}
	}
	if inner < 100 || others < 100 {
		t.Errorf("%d Inner ones and %d others, too few to tell", inner, others)
	}
}

func TestBackOfInner(t *testing.T) { // P18.3: with an Outer and without; as the first one, in between, and as the last one
	for _, outer := range []types{nil, {}, {1}, {2}, {2, 1}, {1, 2, 1, 2}, times(4, api.Cx)} {
		f := plain("f")
		f.Inner, f.Outer = true, outer
		readsBack(t, program(f))
		readsBack(t, program(f, plain("a")))
		readsBack(t, program(plain("a"), f))
		readsBack(t, program(plain("a"), f, plain("b")))
		g := f
		g.Name = "g"
		readsBack(t, program(f, g))
		f.Params, f.Results, f.Locals = types{1}, types{2, 2}, types{1, 2, 1}
		readsBack(t, program(plain("a"), g, f))
	}
}

func TestBackOfEachList(t *testing.T) { // P18.3
	for _, params := range []types{nil, {1}, {2, 1}, times(8, api.Int)} {
		for _, results := range []types{nil, {2}, {1, 2}, times(4, api.Cx)} {
			for _, locals := range []types{nil, {1}, {2, 2, 1}, times(244, api.Cx)} {
				f := plain("f")
				f.Params, f.Results, f.Locals = params, results, locals
				readsBack(t, program(f))
			}
		}
	}
	f := plain("f")
	f.Locals = times(256, api.Int)
	readsBack(t, program(f))
}

func TestBackOfNames(t *testing.T) { // P18.3: also such as are words of a text
	var p api.Program
	for _, name := range []string{"func", "end", "ret", "push", "i", "c", "ic", "a", "z", "f0", "step_2", "abcdefghijkl", "z__________9"} {
		readsBack(t, program(plain(name)))
		p.Funcs = append(p.Funcs, plain(name))
	}
	readsBack(t, p)
}

func TestBackOfEachInstruction(t *testing.T) { // P18.3: with its least and its greatest operand
	for op, w := range words() {
		l := []int{0}
		switch w.many {
		case 0:
		case anyNumber:
			l = []int{least, least + 1, -1, 0, 1, 10, greatest}
		default:
			l = []int{0, 1, w.many - 1}
		}
		f := api.Func{Name: "f"}
		for _, a := range l {
			f.Code, f.Lines = append(f.Code, api.Instr{Op: api.Op(op), A: a}), append(f.Lines, op)
		}
		readsBack(t, program(f))
	}
}

func TestBackOfLines(t *testing.T) { // P18.3
	for _, l := range [][]int{{0}, {1}, {65535}, {0, 1, 65535}, {65535, 0, 1, 1}, {7, 7, 7, 9, 7}, {10, 100, 1000, 10000}} {
		f := api.Func{Name: "f", Code: times(len(l), api.Instr{Op: api.Dup}), Lines: l}
		readsBack(t, program(f))
	}
}

func TestBackOfTheGreatest(t *testing.T) { // P18.3: as much as may be of all
	f := api.Func{Inner: true, Outer: times(4, api.Cx), Params: times(8, api.Int), Results: times(4, api.Int), Locals: times(244, api.Cx)}
	f.Code, f.Lines = times(2000, api.Instr{Op: api.Push, A: least}), times(2000, 65535)
	var p api.Program
	for k := range 40 {
		f.Name = fmt.Sprintf("abcdefghij%02d", k)
		p.Funcs = append(p.Funcs, f)
	}
	readsBack(t, p)
}

func TestBackWithoutTables(t *testing.T) { // P18.1, P18.3: a text has no tables: what is read of it is what there is beside them
	d := dice(12)
	for n := 1; n <= 40; n++ {
		p, q := d.program(n), api.Program{}
		for k := range p.Funcs {
			p.Funcs[k].Locals = times(244, api.Cx)
			q.Funcs = append(q.Funcs, d.tabled(p.Funcs[k]))
		}
		is(t, "Text, with tables", q, dis.Text(q), dis.Text(p))
		readsBack(t, p)
		if dis.Tables(q.Funcs[0]) == "" {
			t.Errorf("no tables of %s", show(q.Funcs[0]))
		}
	}
}

func TestHeadIsReadBack(t *testing.T) { // P18.1, P18.3: it is asm's line
	d := dice(13)
	for range 2000 {
		f := d.function("abz_0959klmn"[d.roll(3):][:1+d.roll(9)])
		s := dis.Head(f)
		got, err := asm.Head(s)
		f.Code, f.Lines = nil, nil
		if err != api.OK || !file.Same(program(got), program(f)) {
			t.Errorf("Head of %q: %s, error %d, want %s", s, show(got), err, show(f))
		}
	}
}

func TestLinesAreReadBack(t *testing.T) { // P18.1, P18.3: each of an instruction is asm's
	d := dice(14)
	for range 500 {
		f := d.function("f")
		l := strings.Split(dis.Func(f), "\n")
		for k := range f.Code {
			if i, n, err := asm.Line(l[k+1]); i != f.Code[k] || n != f.Lines[k] || err != api.OK {
				t.Errorf("Line of %q: %v, line %d, error %d, want %v, line %d", l[k+1], i, n, err, f.Code[k], f.Lines[k])
			}
		}
	}
}

// FuzzProgram holds that a program is read from its text as it was.
func FuzzProgram(f *testing.F) {
	for k := range 20 {
		f.Add(uint64(k), 1+k)
	}
	f.Fuzz(func(t *testing.T, of uint64, n int) {
		d := dice(of)
		readsBack(t, d.program(1+max(n, -n, 0)%40))
	})
}
