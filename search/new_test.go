package search_test

import (
	"strings"
	"testing"

	"reglet/api"
	"reglet/search"
)

// wantNew holds New's answer against one that is written out, and against the plain one.
func wantNew(t testing.TB, s string, want api.Errno, wantAt int) {
	t.Helper()
	p, e, at := search.New(s)
	if e != want || at != wantAt || (p == nil) != (want != api.OK) {
		t.Errorf("New(%q): %v, %d, %d, not %d, %d", s, p != nil, e, at, want, wantAt)
	}
	if e, at := fault(s); e != want || at != wantAt {
		t.Errorf("by the plain way New(%q): %d, %d, not %d, %d", s, e, at, want, wantAt)
	}
	if p != nil && p.String() != s {
		t.Errorf("String of %q: %q", s, p.String())
	}
}

// faulty is a text that has one fault, if an atom should begin where it stands, and the place of it; open: only if nothing stands behind it that ends it.
type faulty struct {
	s    string
	at   int
	open bool
}

func nested(n int, s string) string { return strings.Repeat("(", n) + s + strings.Repeat(")", n) }

// faults: of each kind that the chapter names.
func faults() []faulty {
	list := []faulty{
		{"*", 0, false}, {"+", 0, false}, {"?", 0, false}, {"]", 0, false}, {"{", 0, false}, {"}", 0, false}, {"*a", 0, false}, {"**", 0, false}, {"{2}", 0, false},
		{"a]", 1, false}, {"a{", 1, false}, {"a}", 1, false}, {"a*{", 2, false}, {"[a]]", 3, false}, {"(]", 1, false}, {"(*a)", 1, false}, {"(a|+)", 3, false}, {"()(?)", 3, false},
		{`\q`, 0, false}, {`\A`, 0, false}, {`\N`, 0, false}, {`\T`, 0, false}, {`\0`, 0, false}, {`a\d`, 1, false}, {`(\w)`, 1, false}, {`\\\b`, 2, false},
		{`[\q]`, 1, false}, {`[^\q]`, 2, false}, {`[a\5]`, 2, false}, {`[a-\z]`, 3, false}, {`[z-\a]`, 3, false}, {`[\a-z]`, 1, false}, {`[\n\r]`, 3, false},
		{"[b-a]", 2, false}, {"[^b-a]", 3, false}, {"[xb-a]", 3, false}, {"[a-cb-a]", 5, false}, {`[\n-\t]`, 3, false}, {`[a-\]]`, 2, false}, {"[a-b-a--]", 6, false}, {"[b-a-c]", 2, false},
		{"[]-A]", 2, false}, {"[\u00e9-a]", 3, false}, {"[\U0001f600-\u4e2d]", 5, false}, {"[--+]", 2, false},
		{nested(21, "a"), 20, false}, {nested(21, ""), 20, false}, {"a|" + nested(22, "a"), 22, false}, {nested(20, "a|(b)"), 22, false}, {nested(20, "") + nested(21, ""), 60, false},
		{"[", 0, true}, {"[a", 0, true}, {"[^", 0, true}, {"[^a", 0, true}, {"[a-", 0, true}, {"[a-z", 0, true}, {`[a\`, 0, true}, {"a[b", 1, true}, {"(a[b", 2, true}, {`[\`, 0, true}, {"[[", 0, true},
	}
	return list
}

// ends: texts whose fault hangs on what they end with.
func ends() []faulty {
	return []faulty{
		{`\`, 0, false}, {`a\`, 1, false}, {`\\\`, 2, false}, {`(a\`, 2, false}, {"[]", 0, false}, {"[^]", 0, false}, {`[\]`, 0, false}, {`[a-\]`, 0, false}, {`[^\]`, 0, false},
		{"(", 1, false}, {"(a", 2, false}, {"((a)", 4, false}, {"(a|", 3, false}, {"(a*", 3, false}, {"(\u00e9", 3, false}, {"(()", 3, false}, {"a(b(c", 5, false}, {strings.Repeat("(", 20), 20, false}, {strings.Repeat("(", 21), 20, false},
		{"a)", 1, false}, {")", 0, false}, {"(a))", 3, false}, {"a|)", 2, false}, {"()())", 4, false}, {"[)])", 3, false},
	}
}

// fronts: parts that are taken, behind which an atom should begin.
func fronts() []string {
	return []string{"", "a|", "\u00e9*|", "(b)|", "[]a]+|", `.\.|`, "|", nested(20, "x") + "|", "[(]|", "\U0001f600|"}
}

// P18.1: each kind of fault, alone, behind parts that are taken, and ahead of parts that may be.
func TestFaults(t *testing.T) {
	for _, front := range fronts() {
		for _, f := range append(faults(), ends()...) {
			wantNew(t, front+f.s, api.ErrRegex, len(front)+f.at)
		}
		for _, f := range faults() {
			if !f.open {
				wantNew(t, front+f.s+"|b", api.ErrRegex, len(front)+f.at)
				wantNew(t, front+f.s+")", api.ErrRegex, len(front)+f.at)
			}
			if !f.open && !isDeep(f) { // brackets that are too deep are so earlier within others
				wantNew(t, front+"[a-z](b|"+f.s+")", api.ErrRegex, len(front)+8+f.at)
			}
		}
	}
}

func isDeep(f faulty) bool { return strings.Contains(f.s, strings.Repeat("(", 20)) }

// P18.1: two faults together: the first one from the left is told. A class that doesn't end is told at its [, however much of what stands behind is wrong, too.
func TestTwoFaults(t *testing.T) {
	for _, a := range faults() {
		for _, b := range append(faults(), ends()...) {
			if !a.open {
				wantNew(t, a.s+"|"+b.s, api.ErrRegex, a.at)
				wantNew(t, "|"+a.s+"||"+b.s, api.ErrRegex, a.at+1)
				within := "(" + b.s + "|" + a.s
				_, at := fault(within)
				wantNew(t, within, api.ErrRegex, at)
			}
			if !strings.Contains(b.s, "]") {
				wantNew(t, "["+b.s, api.ErrRegex, 0)
				wantNew(t, "x[^a"+b.s, api.ErrRegex, 1)
			}
		}
	}
	for _, c := range []faulty{
		{`[\q`, 0, false}, {`[b-a`, 0, false}, {`[b-a\`, 0, false}, {`a[\q[b-a`, 1, false}, {`[\q]\`, 1, false}, {`[b-a\q]`, 2, false}, {`[\qb-a]`, 1, false}, {`[b-ad-c]`, 2, false}, {`*[a`, 0, false}, {`([a`, 1, false}, {`(*`, 1, false},
		{`(\`, 1, false}, {`(()*{`, 4, false}, {`a)(`, 1, false}, {`)[`, 0, false}, {`\q\w`, 0, false}, {`[a]{[b-a]`, 3, false}, {strings.Repeat("(", 21) + "[a", 20, false}, {strings.Repeat("(", 20) + "[a", 20, false}, {strings.Repeat("(", 20) + "*(", 20, false},
	} {
		wantNew(t, c.s, api.ErrRegex, c.at)
	}
}

// P18.1: brackets 20 and 21 deep, side by side, with a class and choices within.
func TestDeep(t *testing.T) {
	for _, s := range []string{nested(20, "a"), nested(20, ""), nested(20, "[a]"), nested(20, `\(`), nested(20, "|"), nested(20, "a") + nested(20, "b"), nested(19, "()()(a)"), strings.Repeat("()", 128), nested(20, "[([(]") + "*"} {
		wantNew(t, s, api.OK, 0)
	}
	wantNew(t, nested(21, "a"), api.ErrRegex, 20)
	wantNew(t, nested(20, "a(b)"), api.ErrRegex, 21)
	wantNew(t, nested(20, "a")+nested(21, "b"), api.ErrRegex, 61)
	wantNew(t, strings.Repeat("(", 256), api.ErrRegex, 20)
	wantNew(t, strings.Repeat("(", 20), api.ErrRegex, 20)
	wantNew(t, strings.Repeat("(", 21), api.ErrRegex, 20)
	wantNew(t, strings.Repeat("(|", 22), api.ErrRegex, 40)
	made(t, nested(20, "ab*")+"+").wantAll(t, "abba", [2]int{0, 4})
}

// P18.1: a stroke ahead of n, of t, of every sign, of a letter, of a digit, of nothing, of a rune beyond one byte.
func TestStroke(t *testing.T) {
	for c := range rune(0x100) {
		s := `\` + string(c)
		switch {
		case c == 'n':
			made(t, s).wantAll(t, "n\n\\", [2]int{1, 2})
		case c == 't':
			made(t, s).wantAll(t, "t\t\\", [2]int{1, 2})
		case c >= 'a' && c <= 'z' || c >= 'A' && c <= 'Z' || c >= '0' && c <= '9':
			wantNew(t, s, api.ErrRegex, 0)
			wantNew(t, "a"+s+"b", api.ErrRegex, 1)
			wantNew(t, "["+s+"]", api.ErrRegex, 1)
		default:
			for _, s := range []string{s, "[" + s + "]", "[" + s + "-" + s + "]"} {
				x := made(t, s)
				x.wantAll(t, "a"+string(c)+"b", [2]int{1, 1 + len(string(c))})
				x.wantAll(t, "abnt19")
			}
		}
	}
	wantNew(t, `\`, api.ErrRegex, 0)
	wantNew(t, `ab\\\`, api.ErrRegex, 4)
	made(t, "\\\u4e2d\\\U0001f600").wantAll(t, "\u4e2d\U0001f600", [2]int{0, 7})
}

// P18.1: texts of MaxPattern bytes and of one more, that aren't right, with both faults, and with a fault of the pattern besides.
func TestLongAndWrong(t *testing.T) {
	a := func(n int) string { return strings.Repeat("a", n) }
	for _, c := range []struct {
		s    string
		want api.Errno
		at   int
	}{
		{"", api.OK, 0}, {a(255), api.OK, 0}, {a(256), api.OK, 0}, {a(257), api.ErrLong, 0}, {a(1000), api.ErrLong, 0},
		{strings.Repeat("\u00e9", 128), api.OK, 0}, {strings.Repeat("\u00e9", 128) + "a", api.ErrLong, 0}, {strings.Repeat("\U0001f600", 64), api.OK, 0},
		{"\xff", api.ErrUTF8, 0}, {"a\xff", api.ErrUTF8, 1}, {"ab\xc3", api.ErrUTF8, 2}, {"\u00e9\x80a", api.ErrUTF8, 2}, {"a\xed\xa0\x80", api.ErrUTF8, 1}, {"\xc0\x80", api.ErrUTF8, 0}, {"aaa\xf4\x90\x80\x80", api.ErrUTF8, 3},
		{a(255) + "\xff", api.ErrUTF8, 255}, {a(256) + "\xff", api.ErrLong, 0}, {"\xff" + a(256), api.ErrLong, 0}, {"\xff" + a(255), api.ErrUTF8, 0},
		{"*\xff", api.ErrUTF8, 1}, {"(((*\xff\xfe", api.ErrUTF8, 4}, {"\xff*", api.ErrUTF8, 0}, {"[\xff", api.ErrUTF8, 1}, {"\\\xff", api.ErrUTF8, 1}, {"[b-a]\xc3", api.ErrUTF8, 5},
		{"*" + a(256), api.ErrLong, 0}, {a(256) + "*", api.ErrLong, 0}, {a(256) + "*\xff", api.ErrLong, 0}, {a(255) + "(", api.ErrRegex, 256}, {a(255) + ")", api.ErrRegex, 255}, {a(255) + `\`, api.ErrRegex, 255}, {a(255) + "[", api.ErrRegex, 255},
		{"a" + strings.Repeat("+", 254) + "(", api.ErrRegex, 256}, {"a" + strings.Repeat("+", 255), api.ErrLong, 0}, {"a" + strings.Repeat("+", 254) + "\xff", api.ErrUTF8, 255}, {"a" + strings.Repeat("+", 200) + "|*", api.ErrRegex, 202},
		{"\ufffd", api.OK, 0},
	} {
		wantNew(t, c.s, c.want, c.at)
	}
}

// P18.1: patterns that need MaxStates states, one less and one more.
func TestStatesLimit(t *testing.T) {
	plus := strings.Repeat("+", 11)
	for _, c := range []struct {
		s    string
		want int
	}{
		{"a" + plus, 4095}, {"a" + plus + "b", 4096}, {"a" + plus + "bc", 4097}, {"a" + plus + "*", 4096}, {"a" + plus + "?", 4096}, {"a" + plus + "**", 4097}, {"a" + plus + "?*", 4097}, {"a" + plus + "|", 4096}, {"||a" + plus, 4097}, {"|a" + plus + "|b", 4098},
		{"(a" + plus + ")", 4095}, {"a" + plus + "+", 8191}, {"a" + strings.Repeat("+", 60), 1 << 20}, {"a" + strings.Repeat("+", 64), 1 << 20}, {"a" + strings.Repeat("+", 255), 1 << 20}, {"(a+" + strings.Repeat("+", 100) + "b)+?", 1 << 20},
		{"()" + plus, 2047}, {"()" + plus + "+", 4095}, {"()" + plus + "+a", 4096}, {"()" + plus + "+a.", 4097}, {"()" + plus + "++", 8191},
		{strings.Repeat("a", 63) + nested(1, "abcdefghijklmno")[:16] + ")" + "++++++++", 63 + 256*16 - 1},
		{"[a-z]++++++++++?+", 4097}, {"((a++++++++++|b)b)+", 4101}, {"(a|b|c)++++++++++", 6143},
		{"a++++++++++b++++++++++cd", 4096}, {"a++++++++++b++++++++++c", 4095}, {"a++++++++++b++++++++++c*d", 4097},
	} {
		if n, _ := readPlain(c.s); n.states() != c.want {
			t.Errorf("by the plain way States of %q: %d, not %d", c.s, n.states(), c.want)
		}
		if c.want > 4096 {
			wantNew(t, c.s, api.ErrLong, 0)
			continue
		}
		if p := made(t, c.s).pattern; p.States() != c.want {
			t.Errorf("States of %q: %d, not %d", c.s, p.States(), c.want)
		}
	}
}

// P18.1: States of each kind of pattern, by the chapter's numbers, and String of each.
func TestStates(t *testing.T) {
	for _, c := range []struct {
		s    string
		want int
	}{
		{"", 0}, {"a", 1}, {"\u4e2d", 1}, {".", 1}, {"[a]", 1}, {"[^a-z0-9]", 1}, {`\n`, 1}, {`\*`, 1}, {"ab", 2}, {"a.[b]", 3}, {"\n", 1},
		{"()", 0}, {"(a)", 1}, {"((a))", 1}, {"(ab)c", 3}, {"|", 1}, {"||", 2}, {"a|", 2}, {"|a", 2}, {"a|b", 3}, {"a|b|c", 5}, {"ab|c|", 5}, {"(a|b)c", 4}, {"a(b|cd)", 5},
		{"a*", 2}, {"a+", 3}, {"a?", 2}, {"ab*", 3}, {"ab+", 4}, {"ab?", 3}, {"(ab)*", 3}, {"(ab)+", 5}, {"(ab)?", 3}, {"(a|b)*", 4}, {"(a|b)+", 7}, {"(a|b)?", 4},
		{"()*", 1}, {"()+", 1}, {"()?", 1}, {"(|)*", 2}, {"(|)+", 3}, {"a**", 3}, {"a*+", 5}, {"a+*", 4}, {"a++", 7}, {"a??", 3}, {"a?+", 5}, {"a+?", 4}, {"a*?+", 7}, {"a+b|c", 6}, {"(a*b*)*", 5}, {"((a+)+)+", 15}, {"[*]+", 3}, {`\++`, 3},
	} {
		if p := made(t, c.s).pattern; p.States() != c.want {
			t.Errorf("States of %q: %d, not %d", c.s, p.States(), c.want)
		}
	}
	if search.MaxStates != 4096 {
		t.Error(search.MaxStates)
	}
}

// signs: what patterns are written with.
func signs() []string {
	return []string{"a", "b", "*", "+", "?", "|", "(", ")", "[", "]", "-", "^", `\`, ".", "{", "n", "\u00e9"}
}

// eachText calls see with every text of up to so many of the signs.
func eachText(most int, see func(s string)) {
	var longer func(s string, left int)
	longer = func(s string, left int) {
		see(s)
		if left == 0 {
			return
		}
		for _, sign := range signs() {
			longer(s+sign, left-1)
		}
	}
	longer("", most)
}

// P18.1: every short text.
func TestEachPattern(t *testing.T) {
	taken := map[api.Errno]int{}
	eachText(4, func(s string) {
		e, at := fault(s)
		wantNew(t, s, e, at)
		taken[e]++
	})
	if taken[api.OK] < 5000 || taken[api.ErrRegex] < 5000 {
		t.Errorf("too few of a kind: %v", taken)
	}
}

// P18.1: every short text as the inside of a class.
func TestEachClass(t *testing.T) {
	n := 0
	var see func(s string, left int)
	see = func(s string, left int) {
		e, at := fault("x[" + s + "]")
		wantNew(t, "x["+s+"]", e, at)
		if e == api.OK {
			n++
			x := made(t, "x["+s+"]")
			for _, c := range []string{"a", "b", "c", "-", "^", "]", "\\", "\n", "n", "\u00e9"} {
				if got := x.pattern.Match("x" + c); got != (x.plain.longest("x"+c) == 1+len(c)) {
					t.Errorf("Match of %q by %q: %v", "x"+c, x.text, got)
				}
			}
		}
		if left > 0 {
			for _, sign := range []string{"a", "c", "-", "^", "]", `\`, "n", "\u00e9"} {
				see(s+sign, left-1)
			}
		}
	}
	see("", 5)
	if n < 10000 {
		t.Errorf("only %d were classes", n)
	}
}
