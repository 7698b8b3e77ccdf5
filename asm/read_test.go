package asm_test

import (
	"fmt"
	"slices"
	"strings"
	"testing"

	"inlay/api"
	"inlay/asm"
	"inlay/file"
)

// put tells l with others at a place, ahead of what stood there.
func put(l []string, at int, others ...string) []string {
	return slices.Insert(slices.Clone(l), at, others...)
}

// changed tells l with s at a place, instead of what stood there.
func changed(l []string, at int, s string) []string {
	l = slices.Clone(l)
	l[at] = s
	return l
}

// some tells the lines of a program of three functions, of 3, 5 and 4 lines.
func some() []string {
	return []string{"func a - - -", "1 ret", "end", "func b ic c i", "2 push -3", "2 pop", "65535 ret", "end", "func c - - - i", "0 nop", "9 ret", "end"}
}

// someHeads tells at which of these lines heads stand.
func someHeads() []int { return []int{0, 3, 8} }

// plain tells a function of as little as may be.
func plain(name string) api.Func {
	return api.Func{Name: name, Code: []api.Instr{{Op: api.Ret}}, Lines: []int{1}}
}

// row tells a program of n plain functions.
func row(n int) api.Program {
	var p api.Program
	for k := range n {
		p.Funcs = append(p.Funcs, plain(fmt.Sprintf("f%d", k)))
	}
	return p
}

func TestReadOfSome(t *testing.T) { // P17.3: lines and instructions in their order
	want := api.Program{Funcs: []api.Func{
		{Name: "a", Code: []api.Instr{{Op: api.Ret}}, Lines: []int{1}},
		{Name: "b", Params: types{1, 2}, Results: types{2}, Locals: types{1}, Code: []api.Instr{{Op: api.Push, A: -3}, {Op: api.Pop}, {Op: api.Ret}}, Lines: []int{2, 2, 65535}},
		{Name: "c", Inner: true, Outer: types{1}, Code: []api.Instr{{}, {Op: api.Ret}}, Lines: []int{0, 9}},
	}}
	readIs(t, text(some()...), want, 0, api.OK)
	readIs(t, strings.Join(some(), "\n"), want, 0, api.OK)
}

func TestReadOfPrograms(t *testing.T) { // P17.3: read as they were, with a byte 10 behind the last line and without
	d := dice(4)
	for n := 1; n <= 40; n++ {
		for range 3 {
			p := d.program(n)
			if file.Can(p) != api.OK {
				t.Fatalf("%s can't be laid", show(p))
			}
			readIs(t, text(rows(p)...), p, 0, api.OK)
			readIs(t, strings.Join(rows(p), "\n"), p, 0, api.OK)
		}
		readIs(t, text(rows(row(n))...), row(n), 0, api.OK)
	}
}

func TestReadTellsNoTables(t *testing.T) { // P17.3: also where bodies are opened and closed
	s := text("func f - - -", "1 open 1", "2 close 1", "3 open 119", "3 ret", "end")
	p, n, err := asm.Read(s)
	if n != 0 || err != api.OK || len(p.Funcs) != 1 || len(p.Funcs[0].Code) != 4 {
		t.Fatalf("Read: %+v, number %d, error %d", p, n, err)
	}
	if f := p.Funcs[0]; len(f.Nodes)+len(f.At)+len(f.Live) > 0 {
		t.Errorf("Read: tables %+v", f)
	}
}

func TestReadOfEachInstruction(t *testing.T) { // P17.3
	f := api.Func{Name: "all"}
	for k, i := range instrs() {
		f.Code, f.Lines = append(f.Code, i), append(f.Lines, k%70)
		p := api.Program{Funcs: []api.Func{f}}
		readIs(t, text(rows(p)...), p, 0, api.OK)
	}
}

func TestReadOfInner(t *testing.T) { // P17.3
	for _, outer := range []types{nil, {1}, {2, 1}, {1, 2, 1, 2}} {
		f := plain("f")
		f.Inner, f.Outer = true, outer
		p := api.Program{Funcs: []api.Func{plain("a"), f, plain("b")}}
		readIs(t, text(rows(p)...), p, 0, api.OK)
	}
}

func TestReadOfTheGreatest(t *testing.T) { // P17.3: as much as may be of all
	f := api.Func{Inner: true, Outer: times(4, api.Cx), Params: times(8, api.Int), Results: times(4, api.Int), Locals: times(244, api.Cx)}
	f.Code, f.Lines = times(2000, api.Instr{Op: api.Push, A: least}), times(2000, 65535)
	var p api.Program
	for k := range 40 {
		f.Name = fmt.Sprintf("abcdefghij%02d", k)
		p.Funcs = append(p.Funcs, f)
	}
	readIs(t, text(rows(p)...), p, 0, api.OK)
	g := plain("f")
	g.Locals = times(256, api.Int)
	readIs(t, text(rows(api.Program{Funcs: []api.Func{g}})...), api.Program{Funcs: []api.Func{g}}, 0, api.OK)
}

func TestReadOfNamesThatAreWords(t *testing.T) { // P17.3: a name may be a word that a line begins with
	p := api.Program{Funcs: []api.Func{plain("func"), plain("end"), plain("ret"), plain("i"), plain("c"), plain("i1")}}
	readIs(t, text(rows(p)...), p, 0, api.OK)
}

func TestReadOfEmptyLines(t *testing.T) { // P17.3: they count for nothing, wherever they stand
	want, _, _ := asm.Read(text(some()...))
	for at := range len(some()) + 1 {
		for _, n := range []int{1, 2, 3, 50} {
			l := put(some(), at, times(n, "")...)
			readIs(t, text(l...), want, 0, api.OK)
			readIs(t, strings.Join(l, "\n"), want, 0, api.OK)
		}
	}
	s := strings.Join(some(), "\n\n\n")
	for _, ahead := range []string{"", "\n", "\n\n", strings.Repeat("\n", 70000)} {
		for _, behind := range []string{"", "\n", "\n\n", strings.Repeat("\n", 70000)} {
			readIs(t, ahead+s+behind, want, 0, api.OK)
		}
	}
}

func TestReadOfNoLines(t *testing.T) { // P17.3: an end lacks; the number is 1, as no line counts
	readFails(t, "", 1, api.ErrShort)
	for _, n := range []int{1, 2, 3, 40, 70000} {
		readFails(t, strings.Repeat("\n", n), 1, api.ErrShort)
	}
}

func TestReadOfLinesThatAreNotEmpty(t *testing.T) { // P17.3: of blanks alone, and such
	for _, s := range []string{" ", "  ", "\t", "\r", "\v", "\f", "\x00", "\u00a0", "\u2028", "\ufeff"} {
		for at := range len(some()) + 1 {
			readFails(t, text(put(some(), at, s)...), at+1, api.ErrLine)
		}
		readFails(t, s, 1, api.ErrLine)
		readFails(t, s+"\n", 1, api.ErrLine)
		readFails(t, "\n\n"+s+"\n\n", 3, api.ErrLine)
	}
}

func TestReadOfAnEndThatLacks(t *testing.T) { // P17.3: the last line that counts is told
	for n := 1; n <= len(some()); n++ {
		l := some()[:n]
		if l[n-1] == "end" {
			continue
		}
		for _, behind := range []string{"", "\n", "\n\n", "\n\n\n\n"} {
			readFails(t, strings.Join(l, "\n")+behind, n, api.ErrShort)
			readFails(t, strings.Join(l, "\n\n")+behind, 2*n-1, api.ErrShort)
			readFails(t, "\n\n\n"+strings.Join(l, "\n")+behind, n+3, api.ErrShort)
		}
	}
	for s, n := range map[string]int{
		"func f - - -":                                            1,
		"func f - - -\n":                                          1,
		"func f - - -\n1 ret":                                     2,
		"func f - - -\n1 ret\n":                                   2,
		"func f - - -\n1 ret\n2 ret":                              3,
		"func f - - -\n1 ret\nend\nfunc f - - -":                  4,
		"func f - - -\nend\nfunc f - - -\n":                       3,
		"func f - - -\n1 ret\nend\nfunc g - - -\n":                4,
		"func f - - -\n\n1 ret\n\nend\n\nfunc g i - - -\n\n2 ret": 9,
	} {
		readFails(t, s, n, api.ErrShort)
	}
	l := rows(row(40))
	readFails(t, text(l[:len(l)-1]...), len(l)-1, api.ErrShort)
	readFails(t, text(l[:len(l)-2]...), len(l)-2, api.ErrShort)
}

func TestReadOfAnEndThatLacksBesideWhatCanNotBeLaid(t *testing.T) { // P17.3, R2: it is told ahead of file.Can's errors
	for _, s := range []string{
		"func f - - -\nend\nfunc g - - -\n1 ret",
		"func f - - -\n1 ret\nend\nfunc f - - -\n1 ret",
		"func f iiiiiiiii - -\n1 ret\nend\nfunc g - - -\n1 ret",
	} {
		readFails(t, s, strings.Count(s, "\n")+1, api.ErrShort)
	}
	l := rows(row(60))
	readFails(t, text(l[:len(l)-1]...), len(l)-1, api.ErrShort)
}

// wrong is a text that may not stand where it does, for that reason.
type wrong struct {
	s   string
	err api.Errno
}

func wrongHeads() []wrong {
	return []wrong{
		{"end", api.ErrLine}, {"1 ret", api.ErrLine}, {"func", api.ErrLine}, {"func ", api.ErrLine}, {"func g - -", api.ErrLine}, {"func g - - - - -", api.ErrLine}, {"Func g - - -", api.ErrLine},
		{" func g - - -", api.ErrLine}, {"func\tg - - -", api.ErrLine}, {"x", api.ErrLine}, {"end ", api.ErrLine}, {"\xff", api.ErrLine}, {"func G - - ", api.ErrName}, {"func  - - -", api.ErrName},
		{"func abcdefghijklm - - -", api.ErrName}, {"func G ? ? ?", api.ErrName}, {"func g ? - -", api.ErrForm}, {"func g - - - ", api.ErrForm}, {"func g - - -\r", api.ErrForm}, {"func g - -  -", api.ErrForm},
	}
}

func wrongLines() []wrong {
	return []wrong{
		{"func g - - -", api.ErrLine}, {"ret", api.ErrLine}, {"x", api.ErrLine}, {"1", api.ErrLine}, {"1 ", api.ErrLine}, {" 1 ret", api.ErrLine}, {"65536 ret", api.ErrLine}, {"-1 ret", api.ErrLine}, {"01 ret", api.ErrLine},
		{"1\tret", api.ErrLine}, {"End", api.ErrLine}, {"END", api.ErrLine}, {"end ", api.ErrLine}, {" end", api.ErrLine}, {"end x", api.ErrLine}, {"end\r", api.ErrLine}, {"end\t", api.ErrLine}, {"ends", api.ErrLine}, {"end end", api.ErrLine},
		{"en", api.ErrLine}, {"1 end", api.ErrOp}, {"1  ret", api.ErrOp}, {"1 x", api.ErrOp}, {"1 ret\r", api.ErrOp}, {"1 \xff", api.ErrOp}, {"1 ret ", api.ErrForm}, {"1 push", api.ErrForm}, {"1 push 03", api.ErrForm},
		{"1 jump 2000", api.ErrArg}, {"1 load 256", api.ErrArg}, {"65536 jump 2000", api.ErrLine},
	}
}

// wrongAt tells what is wrong where that line of some stands: a head, or another one.
func wrongAt(at int) []wrong {
	if slices.Contains(someHeads(), at) {
		return wrongHeads()
	}
	return wrongLines()
}

func TestReadOfOneWrongLine(t *testing.T) { // P17.3: at each place
	for at := range some() {
		for _, x := range wrongAt(at) {
			l := changed(some(), at, x.s)
			readFails(t, text(l...), at+1, x.err)
			readFails(t, strings.Join(l, "\n"), at+1, x.err)
			readFails(t, text(l[:at+1]...), at+1, x.err)            // as the last line: ahead of the end that lacks
			readFails(t, strings.Join(l[:at+1], "\n"), at+1, x.err) // also without a byte 10 behind it
			l = put(some(), at, x.s)
			readFails(t, text(l...), at+1, x.err)
		}
	}
	for _, x := range wrongHeads() {
		readFails(t, x.s, 1, x.err)
		readFails(t, text(put(some(), len(some()), x.s)...), len(some())+1, x.err)
	}
}

func TestReadOfAWrongLineBehindEmptyOnes(t *testing.T) { // P17.3: its number is that among all of the text's lines
	for at := range some() {
		for _, x := range wrongAt(at) {
			l := changed(some(), at, x.s)
			readFails(t, strings.Join(l, "\n\n\n"), 3*at+1, x.err)
			readFails(t, "\n\n"+text(l...), at+3, x.err)
			readFails(t, text(put(l, at, "", "", "", "")...), at+5, x.err)
			readFails(t, text(put(l, at+1, "", "", "", "")...), at+1, x.err)
		}
	}
	readFails(t, strings.Repeat("\n", 100000)+"x", 100001, api.ErrLine)
}

func TestReadOfTwoWrongLines(t *testing.T) { // P17.3: the first one of the text is told, whatever they are
	for at := range some() {
		for behind := at + 1; behind < len(some()); behind++ {
			for _, x := range wrongAt(at) {
				for _, y := range wrongAt(behind) {
					readFails(t, text(changed(changed(some(), at, x.s), behind, y.s)...), at+1, x.err)
				}
			}
		}
	}
}

func TestReadOfAWrongLineAheadOfAnEndThatLacks(t *testing.T) { // P17.3
	for at := range 11 {
		for _, x := range wrongAt(at) {
			readFails(t, text(changed(some(), at, x.s)[:11]...), at+1, x.err)
		}
	}
}

// unfit tells texts of programs that can't be laid, and for which reason.
func unfit() map[string]wrong {
	f := func(head string, n int) string {
		return head + "\n" + strings.Repeat("1 ret\n", n) + "end\n"
	}
	i, c := strings.Repeat("i", 256), strings.Repeat("c", 256)
	twice := api.Program{Funcs: []api.Func{plain("a"), plain("b"), plain("a")}}
	alike := row(40)
	alike.Funcs[39].Name = alike.Funcs[0].Name
	return map[string]wrong{
		"41 functions":               {text(rows(row(41))...), api.ErrMany},
		"60 functions":               {text(rows(row(60))...), api.ErrMany},
		"300 functions":              {text(rows(row(300))...), api.ErrMany},
		"5 of Outer":                 {f("func f - - - iiiii", 1), api.ErrType},
		"9 of Params":                {f("func f iiiiiiiii - -", 1), api.ErrType},
		"5 of Results":               {f("func f - ccccc -", 1), api.ErrType},
		"257 of Locals":              {f("func f - - "+i+"i", 1), api.ErrType},
		"257 slots, by Params":       {f("func f i - "+c, 1), api.ErrMany},
		"257 slots, by Results":      {f("func f - i "+c, 1), api.ErrMany},
		"257 slots of an Inner one":  {f("func f - i "+c+" -", 1), api.ErrMany},
		"no instruction":             {f("func f - - -", 0), api.ErrMany},
		"2001 instructions":          {f("func f - - -", 2001), api.ErrMany},
		"5000 instructions":          {f("func f - - -", 5000), api.ErrMany},
		"a name twice":               {text(rows(twice)...), api.ErrName},
		"a name twice, of 40":        {text(rows(alike)...), api.ErrName},
		"a name next to itself":      {f("func f - - -", 1) + f("func f i - -", 2), api.ErrName},
		"9 of Params, and no instr.": {f("func f iiiiiiiii - -", 0), api.ErrType},
		"no instruction, twice":      {f("func f - - -", 0) + f("func f - - -", 0), api.ErrMany},
		"Params behind no instr.":    {f("func f - - -", 0) + f("func g iiiiiiiii - -", 1), api.ErrMany},
		"no instr. behind Params":    {f("func g iiiiiiiii - -", 1) + f("func f - - -", 0), api.ErrType},
		"a name twice, then Params":  {f("func f - - -", 1) + f("func f - - -", 1) + f("func g iiiiiiiii - -", 1), api.ErrType},
		"41, and one of 9 Params":    {f("func g iiiiiiiii - -", 1) + text(rows(row(40))...), api.ErrMany},
		"41, and a name twice":       {f("func f0 - - -", 1) + text(rows(row(40))...), api.ErrMany},
	}
}

func TestReadOfWhatCanNotBeLaid(t *testing.T) { // P17.3: file.Can's error, and the number 0
	for name, x := range unfit() {
		for _, s := range []string{x.s, strings.TrimSuffix(x.s, "\n"), "\n\n" + x.s + "\n\n"} {
			if _, n, err := asm.Read(s); n != 0 || err != x.err {
				t.Errorf("%s: number %d, error %d, want 0, error %d", name, n, err, x.err)
			}
			readFails(t, s, 0, x.err)
		}
	}
}

func TestReadOfWhatCanNotBeLaidAheadOfAWrongLine(t *testing.T) { // P17.3, R2: a line that is wrong is told, wherever it stands
	for name, x := range unfit() {
		n := strings.Count(x.s, "\n")
		for _, y := range wrongHeads() {
			readFails(t, x.s+y.s, n+1, y.err)
			readFails(t, y.s+"\n"+x.s, 1, y.err)
		}
		if got, at, err := asm.Read(x.s + "func z - - -"); len(got.Funcs) > 0 || at != n+1 || err != api.ErrShort {
			t.Errorf("%s, and a head: number %d, error %d, want %d, ErrShort", name, at, err, n+1)
		}
	}
}

func TestReadOfAFaultInEachFunction(t *testing.T) { // P17.3: at the first, a middle and the last one
	for _, n := range []int{1, 2, 5, 40} {
		for _, at := range []int{0, n / 2, n - 1} {
			p := row(n)
			p.Funcs[at].Params = times(9, api.Int)
			readFails(t, text(rows(p)...), 0, api.ErrType)
			p = row(n)
			p.Funcs[at].Code, p.Funcs[at].Lines = nil, nil
			readFails(t, text(rows(p)...), 0, api.ErrMany)
		}
	}
}

func TestReadOfOtherEndsOfLines(t *testing.T) { // P17.3: a byte 10 alone ends a line: what stands behind others belongs to the same words
	readFails(t, strings.ReplaceAll(example, "\n", "\r\n"), 1, api.ErrForm)
	readFails(t, strings.ReplaceAll(example, "\n", "\r"), 1, api.ErrForm)
	readFails(t, "func f - - -\n1 ret\r\nend\r\n", 2, api.ErrOp)
	readFails(t, "func f - - -\n1 push 3\r\nend\r\n", 2, api.ErrForm)
	readFails(t, "func f - - -\n1 ret\nend\r\n", 3, api.ErrLine)
	readFails(t, "func f - - -\n1 ret\nend\n\r\n", 4, api.ErrLine)
	readFails(t, "\r\n"+example, 1, api.ErrLine)
	readFails(t, strings.ReplaceAll(example, "\n", "\v"), 1, api.ErrForm)
	readFails(t, strings.ReplaceAll(example, "\n", "\u2028"), 1, api.ErrForm)
	readFails(t, strings.ReplaceAll(example, "\n", "\u0085"), 1, api.ErrForm)
	readFails(t, strings.ReplaceAll(example, "\n", "\x00"), 1, api.ErrForm)
	readFails(t, strings.ReplaceAll(example, "\n", `\n`), 1, api.ErrForm)
	readFails(t, strings.ReplaceAll(example, " ", "\t"), 1, api.ErrLine)
	readFails(t, "func f - - -\n1\tret\nend\n", 2, api.ErrLine)
	readFails(t, "\ufeff"+example, 1, api.ErrLine)
}

func TestReadOfOneByteMore(t *testing.T) { // P17.3: each byte, at each place of a text that is right
	told := map[api.Errno]int{}
	s := "func f i - c\n1 jump 20\nend\nfunc g - - - i\n65535 ret\n2 push -1\nend"
	for at := range len(s) + 1 {
		for b := range 256 {
			told[readAs(t, s[:at]+string([]byte{byte(b)})+s[at:])]++
			if at < len(s) {
				told[readAs(t, s[:at]+string([]byte{byte(b)})+s[at+1:])]++
			}
		}
		told[readAs(t, s[:at])]++
		told[readAs(t, s[at:])]++
	}
	for _, err := range []api.Errno{api.OK, api.ErrLine, api.ErrName, api.ErrForm, api.ErrOp, api.ErrShort} {
		if told[err] < 4 {
			t.Errorf("error %d: %d of them, too few to tell", err, told[err])
		}
	}
}

func TestReadOfAny(t *testing.T) { // P17.3: lines of any programs, some of which are taken away, put in, or moved
	d := dice(6)
	told := map[api.Errno]int{}
	for range 6000 {
		l := rows(d.program(1 + d.roll(5)))
		for range d.roll(3) {
			at := d.roll(len(l))
			switch d.roll(6) {
			case 0:
				l = slices.Delete(l, at, at+1)
			case 1:
				l = put(l, at, times(d.roll(3), "")...)
			case 2:
				l = put(l, at, wrongLines()[d.roll(len(wrongLines()))].s)
			case 3:
				l = put(l, at, wrongHeads()[d.roll(len(wrongHeads()))].s)
			case 4:
				l = put(l, d.roll(len(l)), l[at])
			case 5:
				l = l[:at+1]
			}
			l = append(l, "")
		}
		told[readAs(t, strings.Join(l, "\n"))]++
	}
	for _, err := range []api.Errno{api.OK, api.ErrLine, api.ErrName, api.ErrForm, api.ErrOp, api.ErrArg, api.ErrShort, api.ErrMany} {
		if told[err] < 5 {
			t.Errorf("error %d: %d of them, too few to tell", err, told[err])
		}
	}
}

func TestReadOfLongLines(t *testing.T) { // P17.3
	for _, n := range []int{1000, 1 << 20} {
		readFails(t, strings.Repeat(" ", n), 1, api.ErrLine)
		readFails(t, "func f"+strings.Repeat(" -", n)+"\n1 ret\nend", 1, api.ErrLine)
		readFails(t, "func f - - -\n"+strings.Repeat("1", n)+" ret\nend", 2, api.ErrLine)
		readFails(t, "func f - - -\n1 "+strings.Repeat("ret", n)+"\nend", 2, api.ErrOp)
		readFails(t, "func f - - -\n1 ret\nend"+strings.Repeat(" ", n), 3, api.ErrLine)
		readFails(t, "func f - - "+strings.Repeat("i", n)+"\n1 ret\nend", 0, api.ErrType)
		readFails(t, "func f - - -\n"+strings.Repeat("1 ret\n", 2*n+1)+"end", 0, api.ErrMany)
	}
}

// FuzzRead holds what Read tells against the chapter.
func FuzzRead(f *testing.F) {
	for _, s := range []string{example, text(some()...), "", "\n\n", "func f - - -", "func f - - -\nend", "func f - - -\n1 ret\nend\nend", "func f - - -\r\n1 ret\r\nend\r\n", text(rows(row(41))...)} {
		f.Add(s)
	}
	f.Fuzz(func(t *testing.T, s string) {
		readAs(t, s)
	})
}

// FuzzProgram holds that a program is read from its text as it was.
func FuzzProgram(f *testing.F) {
	for k := range 20 {
		f.Add(uint64(k), 1+k)
	}
	f.Fuzz(func(t *testing.T, of uint64, n int) {
		d := dice(of)
		p := d.program(1 + max(n, -n, 0)%40)
		readIs(t, text(rows(p)...), p, 0, api.OK)
	})
}
