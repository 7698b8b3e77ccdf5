package asm_test

import (
	"fmt"
	"slices"
	"strings"
	"testing"

	"inlay/api"
)

func TestHeadOfNamedTexts(t *testing.T) { // P17.2
	for _, x := range []struct {
		s string
		f api.Func
	}{
		{"func f - - -", api.Func{Name: "f"}},
		{"func f - - - -", api.Func{Name: "f", Inner: true}},
		{"func f i - -", api.Func{Name: "f", Params: types{1}}},
		{"func f - i -", api.Func{Name: "f", Results: types{1}}},
		{"func f - - i", api.Func{Name: "f", Locals: types{1}}},
		{"func f - - - i", api.Func{Name: "f", Inner: true, Outer: types{1}}},
		{"func f c - -", api.Func{Name: "f", Params: types{2}}},
		{"func f - c -", api.Func{Name: "f", Results: types{2}}},
		{"func f - - c", api.Func{Name: "f", Locals: types{2}}},
		{"func f - - - c", api.Func{Name: "f", Inner: true, Outer: types{2}}},
		{"func f i c ic", api.Func{Name: "f", Params: types{1}, Results: types{2}, Locals: types{1, 2}}},
		{"func step_2 ic ci iic cc", api.Func{Name: "step_2", Inner: true, Params: types{1, 2}, Results: types{2, 1}, Locals: types{1, 1, 2}, Outer: types{2, 2}}},
		{"func func - - -", api.Func{Name: "func"}},
		{"func end i - - -", api.Func{Name: "end", Inner: true, Params: types{1}}},
		{"func abcdefghijkl - - -", api.Func{Name: "abcdefghijkl"}},
		{"func i i c i", api.Func{Name: "i", Params: types{1}, Results: types{2}, Locals: types{1}}},
		{"func z_0 " + strings.Repeat("i", 300) + " " + strings.Repeat("c", 300) + " - iiiii", api.Func{Name: "z_0", Inner: true, Params: times(300, api.Int), Results: times(300, api.Cx), Outer: times(5, api.Int)}},
		{"func f - - " + strings.Repeat("ic", 5000), api.Func{Name: "f", Locals: slices.Repeat(types{1, 2}, 5000)}},
	} {
		headIs(t, x.s, x.f, api.OK)
	}
}

func TestHeadOfAny(t *testing.T) { // P17.2: of a function without instructions the text is read as it was
	d := dice(2)
	for range 3000 {
		f := d.function("abz_0959klmn"[d.roll(3):][:1+d.roll(9)])
		f.Code, f.Lines = nil, nil
		headIs(t, head(f), f, api.OK)
	}
}

func TestHeadOfOtherBeginnings(t *testing.T) { // P17.2
	for _, s := range []string{
		"", " ", "  ", "func", "func ", "func  ", "func   ", "funcf - - -", "func\tf - - -", "func\nf - - -", "func\u00a0f - - -", " func f - - -", "  func f - -",
		"Func f - - -", "FUNC f - - -", "fUNC f - - -", "func\r f - - -", "fun f - - -", "funcs f - - -", "f - - -", "f f - - -", "end", "end f - - -", "- - - - -", "1 ret", "xfunc f - - -",
		"\ufefffunc f - - -", "\xfffunc f - - -", "func\x00 f - - -", "func\xff f - - -", "ｆunc f - - -", "fünc f - - -", " f - - - -", " f - - -", "x f - - -", "func\tf\t-\t-\t-", " - - - - -", "    ", "     ",
		"FUNC A ? ? ?", "x F x x x", "end f - - - -", "funcs F ? ? ? ?",
	} {
		headFails(t, s, api.ErrLine)
	}
}

func TestHeadOfHowManyWords(t *testing.T) { // P17.2: five or six; names and types are looked at behind that
	for _, name := range []string{"f", "F", "", "abcdefghijklm"} {
		for _, list := range []string{"-", "ic", "?", ""} {
			for n := range 40 {
				s := "func " + name + strings.Repeat(" "+list, n)
				switch {
				case n != 3 && n != 4:
					headFails(t, s, api.ErrLine)
				case name != "f":
					headFails(t, s, api.ErrName)
				case list == "?" || list == "":
					headFails(t, s, api.ErrForm)
				default:
					headAs(t, s)
				}
			}
		}
	}
	for _, n := range []int{1000, 1 << 20} {
		headFails(t, "func f"+strings.Repeat(" -", n), api.ErrLine)
		headFails(t, "func f - - -"+strings.Repeat(" ", n), api.ErrLine)
		headFails(t, strings.Repeat(" ", n), api.ErrLine)
		headFails(t, "func"+strings.Repeat(" ", n)+"f - - -", api.ErrLine)
	}
}

func TestHeadOfEmptyWords(t *testing.T) { // P17.2: a word may be empty, and counts
	for s, err := range map[string]api.Errno{
		"func  - - -":       api.ErrName, // the name, of five
		"func  f - -":       api.ErrName,
		"func  f - - -":     api.ErrName, // of six
		"func  - - - -":     api.ErrName,
		"func  f - - - -":   api.ErrLine, // of seven
		"func f  - -":       api.ErrForm, // Params
		"func f  - - -":     api.ErrForm,
		"func f  - - - -":   api.ErrLine,
		"func f -  -":       api.ErrForm, // Results
		"func f -  - -":     api.ErrForm,
		"func f - - ":       api.ErrForm, // Locals
		"func f - -  -":     api.ErrForm,
		"func f - -  - -":   api.ErrLine,
		"func f - - - ":     api.ErrForm, // Outer: a blank at the end
		"func f ic c i ":    api.ErrForm,
		"func f - - -  ":    api.ErrLine,
		"func f - - - - ":   api.ErrLine,
		"func f - - - i ":   api.ErrLine,
		"func f - ":         api.ErrLine, // four
		"func f  ":          api.ErrLine,
		"func f   ":         api.ErrForm, // five
		"func f    ":        api.ErrForm,
		"func f     ":       api.ErrLine,
		"func    ":          api.ErrName,
		"func     ":         api.ErrName,
		"func      ":        api.ErrLine,
		" func f - - ":      api.ErrLine, // no word ahead of func may be empty
		"  func f - -":      api.ErrLine,
		"func  f  - ":       api.ErrName,
		"func f i  c i":     api.ErrForm,
		"func f i c  i":     api.ErrForm,
		"func f i c i  ":    api.ErrLine,
		"func  f  -  -  - ": api.ErrLine,
	} {
		headFails(t, s, err)
	}
}

func TestHeadOfNamesThatMayNotBe(t *testing.T) { // P17.2, R2: also beside types that are none
	for _, name := range []string{
		"", "F", "0", "0f", "_", "_f", "abcdefghijklm", strings.Repeat("a", 1000), "f-", "-", "f.g", "fG", "é", "fé", "f\xff", "\xff", "f\x00", "f\t", "\tf", "f\n", "f\r", "f\u00a0", "ｆ", "f?", "f:", "f,",
	} {
		for _, list := range []string{"-", "i", "c", "?", "", "x", "ii?", "\xff"} {
			for n := 3; n <= 4; n++ {
				headFails(t, "func "+name+strings.Repeat(" "+list, n), api.ErrName)
			}
			headFails(t, "func "+name+" "+list, api.ErrLine)
		}
	}
}

func TestHeadOfTypesThatAreNone(t *testing.T) { // P17.2: at each of the lists
	for _, bad := range []string{
		"", "?", "x", "I", "C", "i?", "?i", "ic?", "i-", "-i", "--", "i,c", "1", "0", "12", "i\t", "\ti", "i\r", "\r", "\n", "i\n", "-\r", "-\n", "\xff", "i\xff", "\xffi", "í", "ｉ", "\x00", "i\x00", "\u00a0", "−", "–",
		strings.Repeat("i", 3000) + "x", "x" + strings.Repeat("c", 3000),
	} {
		for _, good := range []string{"-", "i", "c", "iccic"} {
			for n := 3; n <= 4; n++ {
				for at := range n {
					l := times(n, good)
					l[at] = bad
					headFails(t, "func f "+strings.Join(l, " "), api.ErrForm)
				}
			}
		}
		headFails(t, "func f"+strings.Repeat(" "+bad, 3), api.ErrForm)
		headFails(t, "func f"+strings.Repeat(" "+bad, 4), api.ErrForm)
		headFails(t, "func f "+bad, api.ErrLine)
		headFails(t, "func f - - - - "+bad, api.ErrLine)
	}
}

func TestHeadOfEachList(t *testing.T) { // P17.2: of none, of one, of many; each stands where it should
	l := []string{"-", "i", "c", "ic", "ci", "iiii", "cccccccc", strings.Repeat("ic", 130)}
	for _, params := range l {
		for _, results := range l {
			for _, locals := range l {
				f := api.Func{Name: "f", Params: typed(params), Results: typed(results), Locals: typed(locals)}
				headIs(t, fmt.Sprintf("func f %s %s %s", params, results, locals), f, api.OK)
				for _, outer := range l {
					g := f
					g.Inner, g.Outer = true, typed(outer)
					headIs(t, fmt.Sprintf("func f %s %s %s %s", params, results, locals, outer), g, api.OK)
				}
			}
		}
	}
}

func TestHeadOfOneByteMore(t *testing.T) { // P17.2: each byte, at each place of a head that is right
	told := map[api.Errno]int{}
	for _, s := range []string{"func f - - -", "func f0 i c ic", "func f - - - -", "func step_2 ic ci i ccc"} {
		for at := range len(s) + 1 {
			for b := range 256 {
				told[headAs(t, s[:at]+string([]byte{byte(b)})+s[at:])]++
				if at < len(s) {
					told[headAs(t, s[:at]+string([]byte{byte(b)})+s[at+1:])]++
				}
			}
			told[headAs(t, s[:at])]++
			told[headAs(t, s[at:])]++
		}
	}
	for _, err := range []api.Errno{api.OK, api.ErrLine, api.ErrName, api.ErrForm} {
		if told[err] < 50 {
			t.Errorf("error %d: %d of them, too few to tell", err, told[err])
		}
	}
	if len(told) != 4 {
		t.Errorf("errors %v, want four", told)
	}
}

func TestHeadOfOddWords(t *testing.T) { // P17.2
	for _, a := range odd() {
		headAs(t, a)
		headAs(t, "func"+a+"f - - -")
		headAs(t, "func f - - -"+a)
		headAs(t, a+"func f - - -")
		for n := 3; n <= 7; n++ {
			for at := range n {
				l := append([]string{"func", "f"}, times(5, "-")...)[:n]
				l[at] = a
				headAs(t, strings.Join(l, " "))
			}
		}
	}
}

// FuzzHead holds what Head tells against the chapter.
func FuzzHead(f *testing.F) {
	for _, s := range []string{"func f - - -", "func f i c ic", "func f - - - -", "func f - - - ", "func  - - -", "func", "func ", "func F - - -", "func f ? - -", "end"} {
		f.Add(s)
	}
	f.Fuzz(func(t *testing.T, s string) {
		headAs(t, s)
	})
}
