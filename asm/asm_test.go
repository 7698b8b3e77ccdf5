package asm_test

import (
	"fmt"
	"math"
	"reflect"
	"regexp"
	"slices"
	"strconv"
	"strings"
	"sync"
	"testing"

	"inlay/api"
	"inlay/asm"
	"inlay/file"
	"inlay/instr"
)

const (
	least    = math.MinInt
	greatest = math.MaxInt
)

type types = []api.Type

// example is the program of the chapter.
const example = "func f - - -\n1 ret\nend\n"

// times tells n things alike.
func times[T any](n int, v T) []T {
	return slices.Repeat([]T{v}, n)
}

// dice tells numbers that look like any, the same ones each time.
type dice uint64

func (d *dice) roll(n int) int {
	*d = *d*6364136223846793005 + 1442695040888963407
	return int(*d >> 33 % dice(n))
}

func (d *dice) types(most int) types {
	var l types
	for range d.roll(most + 1) {
		l = append(l, api.Type(1+d.roll(2)))
	}
	return l
}

// instr tells an instruction that may be.
func (d *dice) instr() api.Instr {
	for {
		i := api.Instr{Op: api.Op(d.roll(int(api.Ops)))}
		if d.roll(2) == 0 {
			i.A = []int{1, 3, 39, 119, 255, 1999, -1, least, greatest, 70}[d.roll(10)]
		}
		if instr.Right(i) {
			return i
		}
	}
}

// function tells a function without tables that can be laid, of that name.
func (d *dice) function(name string) api.Func {
	f := api.Func{Name: name, Inner: d.roll(2) == 0, Params: d.types(8), Results: d.types(4), Locals: d.types(12)}
	if f.Inner {
		f.Outer = d.types(4)
	}
	for range 1 + d.roll(12) {
		f.Code = append(f.Code, d.instr())
		f.Lines = append(f.Lines, d.roll(1+d.roll(65536)))
	}
	return f
}

// program tells a program of n functions without tables that can be laid.
func (d *dice) program(n int) api.Program {
	var p api.Program
	for k := range n {
		p.Funcs = append(p.Funcs, d.function(fmt.Sprintf("%c%s%d", 'a'+d.roll(26), "_0xyz"[d.roll(5):], k)))
	}
	return p
}

// letters tells the text of a list of types.
func letters(l types) string {
	if len(l) == 0 {
		return "-"
	}
	s := ""
	for _, t := range l {
		s += string("?ic"[t])
	}
	return s
}

// head tells the line of f with which its text begins.
func head(f api.Func) string {
	s := "func " + f.Name + " " + letters(f.Params) + " " + letters(f.Results) + " " + letters(f.Locals)
	if f.Inner {
		s += " " + letters(f.Outer)
	}
	return s
}

// rows tells the lines of p's text.
func rows(p api.Program) []string {
	var l []string
	for _, f := range p.Funcs {
		l = append(l, head(f))
		for k, i := range f.Code {
			l = append(l, strconv.Itoa(f.Lines[k])+" "+instr.Text(i))
		}
		l = append(l, "end")
	}
	return l
}

// text tells the text of lines, each ended by a byte 10.
func text(l ...string) string {
	return strings.Join(append(slices.Clone(l), ""), "\n")
}

// lineNumbers tells the number of each text that is a line's digits.
var lineNumbers = sync.OnceValue(func() map[string]int {
	m := map[string]int{}
	for n := range 65536 {
		m[fmt.Sprint(n)] = n
	}
	return m
})

// line tells what the chapter says that Line tells.
func line(s string) (api.Instr, int, api.Errno) {
	at := strings.IndexByte(s, ' ')
	if at < 0 || at == len(s)-1 {
		return api.Instr{}, 0, api.ErrLine
	}
	n, ok := lineNumbers()[s[:at]]
	if !ok {
		return api.Instr{}, 0, api.ErrLine
	}
	i, err := instr.Read(s[at+1:])
	if err != api.OK {
		return api.Instr{}, 0, err
	}
	return i, n, api.OK
}

var (
	nameForm = regexp.MustCompile(`^[a-z][a-z0-9_]{0,11}$`)
	typeForm = regexp.MustCompile(`^(-|[ic]+)$`)
)

// typed tells the types that a text of that form tells.
func typed(s string) types {
	var l types
	for k := range len(s) {
		switch s[k] {
		case 'i':
			l = append(l, api.Int)
		case 'c':
			l = append(l, api.Cx)
		}
	}
	return l
}

// heading tells what the chapter says that Head tells.
func heading(s string) (api.Func, api.Errno) {
	l := strings.Split(s, " ")
	if l[0] != "func" || len(l) < 5 || len(l) > 6 {
		return api.Func{}, api.ErrLine
	}
	if !nameForm.MatchString(l[1]) {
		return api.Func{}, api.ErrName
	}
	for _, w := range l[2:] {
		if !typeForm.MatchString(w) {
			return api.Func{}, api.ErrForm
		}
	}
	f := api.Func{Name: l[1], Params: typed(l[2]), Results: typed(l[3]), Locals: typed(l[4])}
	if len(l) == 6 {
		f.Inner, f.Outer = true, typed(l[5])
	}
	return f, api.OK
}

// read tells what the chapter says that Read tells: the text is cut into functions, up to each end, and then these into lines.
func read(s string) (api.Program, int, api.Errno) {
	var p api.Program
	inside, last := false, 1
	for k, row := range strings.Split(s, "\n") {
		var err api.Errno
		if row == "" {
			continue
		}
		last = k + 1
		of := len(p.Funcs) - 1
		if !inside {
			var f api.Func
			f, err = heading(row)
			p.Funcs = append(p.Funcs, f)
			inside = true
		} else if row == "end" {
			inside = false
		} else {
			var i api.Instr
			var n int
			i, n, err = line(row)
			p.Funcs[of].Code, p.Funcs[of].Lines = append(p.Funcs[of].Code, i), append(p.Funcs[of].Lines, n)
		}
		if err != api.OK {
			return api.Program{}, last, err
		}
	}
	if inside || len(p.Funcs) == 0 {
		return api.Program{}, last, api.ErrShort
	}
	if err := file.Can(p); err != api.OK {
		return api.Program{}, 0, err
	}
	return p, 0, api.OK
}

// sameFunc tells whether a and b are the same in each field that there is, an empty list being as none.
func sameFunc(a, b api.Func) bool {
	x, y := reflect.ValueOf(a), reflect.ValueOf(b)
	for k := range x.NumField() {
		p, q := x.Field(k), y.Field(k)
		if p.Kind() == reflect.Slice && p.Len() == 0 && q.Len() == 0 {
			continue
		}
		if !reflect.DeepEqual(p.Interface(), q.Interface()) {
			return false
		}
	}
	return true
}

// same tells whether a and b are the same, function by function.
func same(a, b api.Program) bool {
	return slices.EqualFunc(a.Funcs, b.Funcs, sameFunc)
}

// short tells as much of a text as may be shown.
func short(s string) string {
	return fmt.Sprintf("%d bytes %q", len(s), s[:min(len(s), 200)])
}

// show tells as much of what is told as may be shown.
func show(v any) string {
	s := fmt.Sprintf("%+v", v)
	return s[:min(len(s), 500)]
}

// lineIs holds what Line tells of s against what it should.
func lineIs(t *testing.T, s string, i api.Instr, n int, err api.Errno) {
	t.Helper()
	gotI, gotN, gotErr := asm.Line(s)
	if gotI != i || gotN != n || gotErr != err {
		t.Errorf("Line of %s: %v, line %d, error %d, want %v, line %d, error %d", short(s), gotI, gotN, gotErr, i, n, err)
	}
}

// lineFails holds that Line tells that error of s, and nothing beside it.
func lineFails(t *testing.T, s string, err api.Errno) {
	t.Helper()
	lineIs(t, s, api.Instr{}, 0, err)
}

// lineAs holds what Line tells of s against the chapter.
func lineAs(t *testing.T, s string) api.Errno {
	t.Helper()
	i, n, err := line(s)
	lineIs(t, s, i, n, err)
	return err
}

// headIs holds what Head tells of s against what it should.
func headIs(t *testing.T, s string, f api.Func, err api.Errno) {
	t.Helper()
	got, gotErr := asm.Head(s)
	if !sameFunc(got, f) || gotErr != err {
		t.Errorf("Head of %s: %s, error %d, want %s, error %d", short(s), show(got), gotErr, show(f), err)
	}
}

// headFails holds that Head tells that error of s, and nothing beside it.
func headFails(t *testing.T, s string, err api.Errno) {
	t.Helper()
	headIs(t, s, api.Func{}, err)
	if got, _ := asm.Head(s); !reflect.ValueOf(got).IsZero() {
		t.Errorf("Head of %s: %+v beside an error", short(s), got)
	}
}

// headAs holds what Head tells of s against the chapter.
func headAs(t *testing.T, s string) api.Errno {
	t.Helper()
	f, err := heading(s)
	headIs(t, s, f, err)
	return err
}

// readIs holds what Read tells of s against what it should.
func readIs(t *testing.T, s string, p api.Program, n int, err api.Errno) {
	t.Helper()
	got, gotN, gotErr := asm.Read(s)
	if !same(got, p) || gotN != n || gotErr != err {
		t.Errorf("Read of %s: %s, number %d, error %d, want %s, number %d, error %d", short(s), show(got), gotN, gotErr, show(p), n, err)
	}
}

// readFails holds that Read tells that error of s, at that line, and nothing beside it.
func readFails(t *testing.T, s string, n int, err api.Errno) {
	t.Helper()
	readIs(t, s, api.Program{}, n, err)
	if got, _, _ := asm.Read(s); got.Funcs != nil {
		t.Errorf("Read of %s: %+v beside an error", short(s), got)
	}
}

// readAs holds what Read tells of s against the chapter.
func readAs(t *testing.T, s string) api.Errno {
	t.Helper()
	p, n, err := read(s)
	readIs(t, s, p, n, err)
	return err
}

// odd tells texts that no layer made: each byte, bytes that are no letters, other blanks and ends of lines, digits of others.
func odd() []string {
	l := []string{
		"", " ", "  ", "\n", "\r", "\r\n", "\t", "\v", "\f", "\u00a0", "\u2003", "\u2028", "\ufeff", "\x00", "\x7f", "\xff", "\xc3", "\xe2\x82", "é", "１", "٣", "²", "日本", "\U0001f600",
		"-", "+", ".", "?", "i", "c", "ic", "I", "f", "F", "func", "FUNC", "fun", "funcs", "end", "END", "end ", " end", "ends", "ret", "Ret", "push", "push 1", "push -1", "0", "1", "-1", "-0", "01", "+1",
		"1e3", "0x1", "1_0", "65535", "65536", "9223372036854775807", "9223372036854775808", "18446744073709551616", strings.Repeat("9", 1000),
		strings.Repeat(" ", 1000), strings.Repeat("a", 13), strings.Repeat("\xff", 1000), example, "INL1",
	}
	for b := range 256 {
		l = append(l, string([]byte{byte(b)}))
	}
	return l
}

func TestExample(t *testing.T) { // P17.3
	p := api.Program{Funcs: []api.Func{{Name: "f", Code: []api.Instr{{Op: api.Ret}}, Lines: []int{1}}}}
	readIs(t, "func f - - -\n1 ret\nend", p, 0, api.OK)
	readIs(t, example, p, 0, api.OK)
	headIs(t, "func f - - -", api.Func{Name: "f"}, api.OK)
	lineIs(t, "1 ret", api.Instr{Op: api.Ret}, 1, api.OK)
}

// face is a call of asm with a text, whose answer is told as one text.
type face struct {
	name string
	call func(s string) string
}

func faces() []face {
	return []face{
		{"Line", func(s string) string { i, n, err := asm.Line(s); return fmt.Sprint(i, n, err) }},
		{"Head", func(s string) string { f, err := asm.Head(s); return fmt.Sprintf("%+v %d", f, err) }},
		{"Read", func(s string) string { p, n, err := asm.Read(s); return fmt.Sprintf("%+v %d %d", p, n, err) }},
	}
}

// texts tells texts of all kinds, those that are right and those that are not.
func texts() []string {
	l := odd()
	d := dice(17)
	for n := range 12 {
		s := text(rows(d.program(1 + n))...)
		l = append(l, s, s[:len(s)-1], s[:len(s)/2], s[1:], strings.ReplaceAll(s, "\n", "\n\n"), strings.Replace(s, " ", "  ", 1))
		l = append(l, strings.Split(s, "\n")...)
	}
	return l
}

func TestNoCallPanics(t *testing.T) { // P17.1 to P17.3, R1
	d := dice(1)
	odd := odd()
	for range 20000 {
		s := ""
		for range d.roll(9) {
			s += odd[d.roll(len(odd))]
			s += []string{"", " ", "\n", "\r\n"}[d.roll(4)]
		}
		lineAs(t, s)
		headAs(t, s)
		readAs(t, s)
	}
}

func TestTheSameEachTime(t *testing.T) { // P17.1 to P17.3, R4: forward and backward, also behind calls that failed
	l := texts()
	for _, x := range faces() {
		var first []string
		for _, s := range l {
			first = append(first, x.call(s))
		}
		for k, s := range slices.Backward(l) {
			if got := x.call(s); got != first[k] {
				t.Errorf("%s of %s: %s, and then %s", x.name, short(s), show(first[k]), show(got))
			}
		}
	}
}

func TestManyAtOnce(t *testing.T) { // P17.1 to P17.3, R4: whatever else is asked at the same time
	l := texts()
	var want []string
	for _, s := range l {
		for _, x := range faces() {
			want = append(want, x.call(s))
		}
	}
	var all sync.WaitGroup
	for range 8 {
		all.Go(func() {
			var got []string
			for _, s := range l {
				for _, x := range faces() {
					got = append(got, x.call(s))
				}
			}
			if !slices.Equal(got, want) {
				t.Errorf("calls at the same time tell other things")
			}
		})
	}
	all.Wait()
}

// fill writes v over all of l, and over its room.
func fill[T any](l []T, v T) {
	l = l[:cap(l)]
	for k := range l {
		l[k] = v
	}
}

// overs tells for each list of a function what writes over it and its room.
func overs() map[string]func(f api.Func) {
	return map[string]func(f api.Func){
		"Outer":   func(f api.Func) { fill(f.Outer, 77) },
		"Params":  func(f api.Func) { fill(f.Params, 78) },
		"Results": func(f api.Func) { fill(f.Results, 79) },
		"Locals":  func(f api.Func) { fill(f.Locals, 80) },
		"Code":    func(f api.Func) { fill(f.Code, api.Instr{Op: 99, A: 9}) },
		"Lines":   func(f api.Func) { fill(f.Lines, -99) },
	}
}

// copied tells p in memory of its own, as far as its lists reach.
func copied(p api.Program) api.Program {
	var q api.Program
	for _, f := range p.Funcs {
		f.Outer, f.Params, f.Results, f.Locals = slices.Clone(f.Outer), slices.Clone(f.Params), slices.Clone(f.Results), slices.Clone(f.Locals)
		f.Code, f.Lines = slices.Clone(f.Code), slices.Clone(f.Lines)
		q.Funcs = append(q.Funcs, f)
	}
	return q
}

// dropped tells p without that list of its function at.
func dropped(p api.Program, at int, name string) api.Program {
	p = copied(p)
	reflect.ValueOf(&p.Funcs[at]).Elem().FieldByName(name).SetZero()
	return p
}

func TestReadTellsNewMemory(t *testing.T) { // P17.3, R3: no list shares with another, nor with what is told later
	d := dice(3)
	for n := 1; n <= 6; n++ {
		want := d.program(n)
		for k := range want.Funcs {
			f := &want.Funcs[k]
			f.Inner, f.Outer, f.Params, f.Results, f.Locals = true, types{1, 2}, types{1, 2}, types{1, 2}, types{1, 2}
		}
		s := text(rows(want)...)
		for at := range n {
			for name, over := range overs() {
				p, _, _ := asm.Read(s)
				over(p.Funcs[at])
				if !same(dropped(p, at, name), dropped(want, at, name)) {
					t.Errorf("function %d of %d: writing over %s changes another list", at, n, name)
				}
				readIs(t, s, want, 0, api.OK)
			}
		}
		p, _, _ := asm.Read(s)
		fill(p.Funcs, api.Func{Name: "other", Code: times(9, api.Instr{Op: 1})})
		readIs(t, s, want, 0, api.OK)
	}
}

func TestHeadTellsNewMemory(t *testing.T) { // P17.2, R3
	want := api.Func{Name: "f", Inner: true, Params: types{1, 2}, Results: types{1, 2}, Locals: types{1, 2}, Outer: types{1, 2}}
	for name, over := range overs() {
		f, _ := asm.Head(head(want))
		over(f)
		p, q := api.Program{Funcs: []api.Func{f}}, api.Program{Funcs: []api.Func{want}}
		if !same(dropped(p, 0, name), dropped(q, 0, name)) {
			t.Errorf("writing over %s changes another list: %+v", name, f)
		}
		headIs(t, head(want), want, api.OK)
	}
}

func TestHeadsToldTwiceGrowApart(t *testing.T) { // P17.2, R3: what is put behind one list is not behind another
	s := "func f ic ic ic ic"
	a, _ := asm.Head(s)
	b, _ := asm.Head(s)
	a.Params, b.Params = append(a.Params, 1), append(b.Params, 2)
	a.Outer, b.Outer = append(a.Outer, 1), append(b.Outer, 2)
	if a.Params[2] != 1 || a.Outer[2] != 1 || b.Params[2] != 2 || b.Outer[2] != 2 || !slices.Equal(a.Locals, types{1, 2}) || !slices.Equal(a.Results, types{1, 2}) {
		t.Errorf("two heads share memory: %+v, %+v", a, b)
	}
}
