package head_test

import (
	"slices"
	"strings"
	"testing"

	"bindery/api"
	"bindery/head"
	"bindery/plain"
)

// fields is a head of names and values, by turns.
func fields(l ...string) []api.Field {
	var out []api.Field
	for i := 0; i < len(l); i += 2 {
		out = append(out, api.Field{Name: l[i], Value: l[i+1]})
	}
	return out
}

// x is a word of n plain letters.
func x(n int) string { return strings.Repeat("x", n) }

func bytes(l ...byte) string { return string(l) }

// wantAt asks for an error in an At at a place.
func wantAt(t *testing.T, in any, err error, want api.Errno, at int) {
	t.Helper()
	if e, place := plain.Place(err); e != want || place != at {
		t.Errorf("%q: got error %d at %d, want %d at %d", in, e, place, want, at)
	}
}

func wantRead(t *testing.T, s string, want []api.Field, rest string) {
	t.Helper()
	l, got, err := head.Read(s)
	if !slices.Equal(l, want) || got != rest || err != nil {
		t.Errorf("%q: got %q, %q, %v, want %q, %q", s, l, got, err, want, rest)
	}
}

func wantReadWrong(t *testing.T, s string, at int) {
	t.Helper()
	l, rest, err := head.Read(s)
	wantAt(t, s, err, api.ErrForm, at)
	if len(l) != 0 || rest != "" {
		t.Errorf("%q: got %q and %q beside an error", s, l, rest)
	}
}

func wantClean(t *testing.T, l, want []api.Field) {
	t.Helper()
	if got, err := head.Clean(l); !slices.Equal(got, want) || err != nil {
		t.Errorf("%q: got %q, %v, want %q", l, got, err, want)
	}
}

func wantCleanWrong(t *testing.T, l []api.Field, at int) {
	t.Helper()
	got, err := head.Clean(l)
	wantAt(t, l, err, api.ErrArg, at)
	if len(got) != 0 {
		t.Errorf("%q: got %q beside an error", l, got)
	}
}

func wantWrite(t *testing.T, l []api.Field, want string) {
	t.Helper()
	if got, err := head.Write(l); got != want || err != nil {
		t.Errorf("%q: got %q, %v, want %q", l, got, err, want)
	}
}

func wantWriteWrong(t *testing.T, l []api.Field, at int) {
	t.Helper()
	got, err := head.Write(l)
	wantAt(t, l, err, api.ErrArg, at)
	if got != "" {
		t.Errorf("%q: got %q beside an error", l, got)
	}
}

// mayBe asks Right, and whether Write thinks alike of it.
func mayBe(t *testing.T, l []api.Field, want bool) {
	t.Helper()
	if got := head.Right(l); got != want {
		t.Errorf("%q: right: %v", l, got)
	}
	if _, err := head.Write(l); (err == nil) != want {
		t.Errorf("%q: written: %v", l, err)
	}
}

// mayBeNamed and maySay are 2.1's own words, byte by byte.
func mayBeNamed(c byte) bool { return c >= 33 && c <= 126 && c != ':' }

func maySay(c byte) bool { return c >= 32 && c != 127 || c == 9 }

// 2.1

func TestRight(t *testing.T) {
	for _, l := range [][]api.Field{
		nil,
		{},
		fields("A", ""),
		fields("A", "b"),
		fields("a", "b c\td"),
		fields("A", "b", "A", "b", "a", "c"),
		fields("Content-Type", "text/html; a=\"b\""),
		fields("!~", ": :"),
		fields("A", "\x80\xff \xc3\xa9"),
		fields(x(1000), x(1000)),
	} {
		mayBe(t, l, true)
	}
}

func TestRightWrong(t *testing.T) {
	for _, l := range [][]api.Field{
		fields("", ""),
		fields("", "b"),
		fields("A:", "b"),
		fields(":", "b"),
		fields("A b", "b"),
		fields(" A", "b"),
		fields("A\t", "b"),
		fields("\xc3\xa9", "b"),
		fields("A", " "),
		fields("A", "\t"),
		fields("A", " b"),
		fields("A", "b "),
		fields("A", "\tb"),
		fields("A", "b\t"),
		fields("A", "b\r\nc"),
		fields("A", "b\r\n c"),
		fields("A", "b\x00c"),
		fields("A", "b", "", "c"),
		fields("A", "b", "C", "d", "E", " "),
		fields("A", "\n", "C", "d"),
	} {
		mayBe(t, l, false)
	}
}

func TestRightEachByte(t *testing.T) {
	for i := range 256 {
		c := byte(i)
		mayBe(t, fields(bytes(c), ""), mayBeNamed(c))
		mayBe(t, fields(bytes('a', c), ""), mayBeNamed(c))
		mayBe(t, fields(bytes(c, 'a'), ""), mayBeNamed(c))
		mayBe(t, fields("A", bytes('b', c, 'c')), maySay(c))
		atEnd := maySay(c) && c != ' ' && c != '\t'
		mayBe(t, fields("A", bytes(c)), atEnd)
		mayBe(t, fields("A", bytes(c, 'b')), atEnd)
		mayBe(t, fields("A", bytes('b', c)), atEnd)
	}
}

// 2.2

func TestRead(t *testing.T) {
	for _, c := range []struct {
		in   string
		want []api.Field
		rest string
	}{
		{"", nil, ""},
		{"\r\n", nil, ""},
		{"\r\nA: b", nil, "A: b"},
		{"\r\n\r\n", nil, "\r\n"},
		{"A: b", fields("A", " b"), ""},
		{"A: b\r\n", fields("A", " b"), ""},
		{"A: b\r\n\r\n", fields("A", " b"), ""},
		{"A: b\r\n\r\nrest", fields("A", " b"), "rest"},
		{"A: b\r\n\r\n\r\n", fields("A", " b"), "\r\n"},
		{"A: b\r\n\r\nC: d\r\n\r\ne", fields("A", " b"), "C: d\r\n\r\ne"},
		{"A: b\r\n\r\n no field\r\n", fields("A", " b"), " no field\r\n"},
		{"A:b\r\nC: d \t\r\nA:\r\n", fields("A", "b", "C", " d \t", "A", ""), ""},
		{"A:", fields("A", ""), ""},
		{"A::b:", fields("A", ":b:"), ""},
		{"!~:\x00\x7f\xff", fields("!~", "\x00\x7f\xff"), ""},
		{"A: b\r\n c", fields("A", " b c"), ""},
		{"A: b\r\n\tc \r\n  d\r\nE:f", fields("A", " b\tc   d", "E", "f"), ""},
		{"A:\r\n \r\n\t\r\n\r\nrest", fields("A", " \t"), "rest"},
		{"A:b\r\n C: d\r\n", fields("A", "b C: d"), ""},
		{"A:b\r\nC:d\r\n e\r\n f\r\n", fields("A", "b", "C", "d e f"), ""},
		{"A:b\rc\nd\r", fields("A", "b\rc\nd\r"), ""},
		{"A:b\n\r\n\r\nrest", fields("A", "b\n"), "rest"},
		{"A:b\r\r\n\r\nrest", fields("A", "b\r"), "rest"},
		{"A:b\n\nC:d", fields("A", "b\n\nC:d"), ""},
	} {
		wantRead(t, c.in, c.want, c.rest)
	}
}

func TestReadWrong(t *testing.T) {
	for _, c := range []struct {
		in string
		at int
	}{
		{" ", 0},
		{"\t", 0},
		{" A: b", 0},
		{" \r\n", 0},
		{"\tA: b\r\n\r\n", 0},
		{"A", 0},
		{"A\r\n", 0},
		{":", 0},
		{": b", 0},
		{"A : b", 0},
		{"A b: c", 0},
		{"A\t: c", 0},
		{"\r", 0},
		{"\n", 0},
		{"\n\r\n", 0},
		{"\rA: b", 0},
		{"\x7f:", 0},
		{"\xc3\xa9: b", 0},
		{"A: b\r\nC\r\n\r\n", 1},
		{"A: b\r\n\r", 1},
		{"A: b\r\n\n", 1},
		{"A: b\r\n\r\r\n", 1},
		{"A: b\r\nC: d\r\n:e", 2},
		{"A: b\r\n c\r\n d\r\nE\r\n", 3},
		{"A: b\r\nC\r\n d\r\nE\r\n", 1},
		{"A: b\r\n c\r\n\nD: e", 2},
		{"A\r\n\r\nB", 0},
	} {
		wantReadWrong(t, c.in, c.at)
	}
}

func TestReadEachByteOfAName(t *testing.T) {
	for i := range 256 {
		c := byte(i)
		for _, name := range []string{bytes(c), bytes(c, 'a'), bytes('a', c)} {
			s := "A:b\r\n" + name + ": v"
			switch {
			case mayBeNamed(c):
				wantRead(t, s, fields("A", "b", name, " v"), "")
			case name[0] == ' ' || name[0] == '\t':
				wantRead(t, s, fields("A", "b"+name+": v"), "")
			case name == ":":
				wantReadWrong(t, s, 1)
			case name == "a:":
				wantRead(t, s, fields("A", "b", "a", ": v"), "")
			default:
				wantReadWrong(t, s, 1)
			}
		}
	}
}

func TestReadEachByteOfAValue(t *testing.T) {
	for i := range 256 {
		v := bytes('v', byte(i), 'w')
		wantRead(t, "A:"+v+"\r\n "+v, fields("A", v+" "+v), "")
	}
}

// readSlowly reads a head by 2.2's words, letter by letter; -1: no line of it is wrong.
func readSlowly(s string) (l []api.Field, rest string, wrong int) {
	for n := 0; s != ""; n++ {
		end := 0
		for end < len(s) && !strings.HasPrefix(s[end:], "\r\n") {
			end++
		}
		line := s[:end]
		s = s[min(end+2, len(s)):]
		if line == "" {
			return l, s, -1
		}
		if line[0] == ' ' || line[0] == '\t' {
			if len(l) == 0 {
				return nil, "", n
			}
			l[len(l)-1].Value += line
			continue
		}
		long := 0
		for long < len(line) && mayBeNamed(line[long]) {
			long++
		}
		if long == 0 || long == len(line) || line[long] != ':' {
			return nil, "", n
		}
		l = append(l, api.Field{Name: line[:long], Value: line[long+1:]})
	}
	return l, "", -1
}

func readAsTold(t *testing.T, s string) {
	t.Helper()
	l, rest, wrong := readSlowly(s)
	if wrong < 0 {
		wantRead(t, s, l, rest)
	} else {
		wantReadWrong(t, s, wrong)
	}
}

// texts are all texts of such pieces, up to a number of them.
func texts(pieces []string, most int) []string {
	all := []string{""}
	last := all
	for range most {
		var next []string
		for _, s := range last {
			for _, p := range pieces {
				next = append(next, s+p)
			}
		}
		all = append(all, next...)
		last = next
	}
	return all
}

func TestReadAsTold(t *testing.T) {
	for _, s := range texts([]string{"a", ":", " ", "\t", "\r", "\n", "\r\n"}, 6) {
		readAsTold(t, s)
	}
	for _, s := range texts([]string{"A:b\r\n", " c\r\n", "\r\n", "d\r\n", "e: "}, 5) {
		readAsTold(t, s)
	}
}

func TestReadManyLines(t *testing.T) {
	const n = 200_000
	wantRead(t, "A:"+strings.Repeat("\r\n b", n), fields("A", strings.Repeat(" b", n)), "")
	wantReadWrong(t, strings.Repeat("A:\r\n b\r\n", n)+"c", 2*n)
}

func TestClean(t *testing.T) {
	for _, c := range []struct{ in, want []api.Field }{
		{nil, nil},
		{fields("A", ""), fields("A", "")},
		{fields("A", "b"), fields("A", "b")},
		{fields("A", " b"), fields("A", "b")},
		{fields("A", "\t b c\td \t "), fields("A", "b c\td")},
		{fields("A", " \t "), fields("A", "")},
		{fields("A", " b", "A", "c ", "D", "e"), fields("A", "b", "A", "c", "D", "e")},
		{fields("A", " \x80\xff "), fields("A", "\x80\xff")},
		// Clean looks at what fields say alone.
		{fields("", " b", "A b:\r\n", "c", " A ", ""), fields("", "b", "A b:\r\n", "c", " A ", "")},
	} {
		wantClean(t, c.in, c.want)
	}
}

func TestCleanWrong(t *testing.T) {
	for _, c := range []struct {
		in []api.Field
		at int
	}{
		{fields("A", "\r"), 0},
		{fields("A", "b\n"), 0},
		{fields("A", " \x00 "), 0},
		{fields("A", "b\x7fc"), 0},
		{fields("A", "b", "C", "d\re"), 1},
		{fields("A", " b", "C", " \n", "E", "\n"), 1},
		{fields("A", "b", "C", "d", "E", "\v", "F", "g"), 2},
	} {
		wantCleanWrong(t, c.in, c.at)
	}
}

func TestCleanEachByte(t *testing.T) {
	for i := range 256 {
		c := byte(i)
		l := fields("A", bytes(' ', 'b', c, 'b', ' '), "C", bytes(c))
		switch {
		case !maySay(c):
			wantCleanWrong(t, l, 0)
			wantCleanWrong(t, l[1:], 0)
		case c == ' ' || c == '\t':
			wantClean(t, l, fields("A", bytes('b', c, 'b'), "C", ""))
		default:
			wantClean(t, l, fields("A", bytes('b', c, 'b'), "C", bytes(c)))
		}
	}
}

func TestCleanLeavesWhatItIsGiven(t *testing.T) {
	l := fields("A", " b ", "C", " d", "E", " f")
	out, err := head.Clean(l[:2])
	if err != nil || !slices.Equal(l, fields("A", " b ", "C", " d", "E", " f")) {
		t.Errorf("written into: %q, %v", l, err)
	}
	out[0].Name = "X"
	_ = append(out, api.Field{Name: "Y"})
	if !slices.Equal(l, fields("A", " b ", "C", " d", "E", " f")) {
		t.Errorf("shared: %q", l)
	}
	// With nothing to be cleaned, too, the answer is the caller's own.
	l = fields("A", "b")
	out, _ = head.Clean(l)
	out[0].Name = "X"
	if l[0].Name != "A" {
		t.Errorf("shared: %q", l)
	}
}

// 2.3

func TestWrite(t *testing.T) {
	for _, c := range []struct {
		in   []api.Field
		want string
	}{
		{nil, "\r\n"},
		{[]api.Field{}, "\r\n"},
		{fields("A", ""), "A: \r\n\r\n"},
		{fields("A", "b"), "A: b\r\n\r\n"},
		{fields("A", "b c\td"), "A: b c\td\r\n\r\n"},
		{fields("A", "b   c"), "A: b   c\r\n\r\n"},
		{fields("A", "b", "a", "", "C-D", "e"), "A: b\r\na: \r\nC-D: e\r\n\r\n"},
		{fields("A", "\x80\xff"), "A: \x80\xff\r\n\r\n"},
	} {
		wantWrite(t, c.in, c.want)
	}
}

// A line's beginning, "A: ", is three letters long.
func TestWriteCutsLines(t *testing.T) {
	for _, c := range []struct{ value, want string }{
		{x(73), "A: " + x(73)},
		{x(74), "A: " + x(74)},
		{x(500), "A: " + x(500)},
		{x(71) + " y", "A: " + x(71) + " y"},
		{x(72) + " y", "A: " + x(72) + "\r\n y"},
		{x(71) + " yy", "A: " + x(71) + "\r\n yy"},
		{x(100) + " y", "A: " + x(100) + "\r\n y"},
		{"y " + x(71), "A: y " + x(71)},
		{"y " + x(72), "A: y\r\n " + x(72)},
		{"y " + x(500), "A: y\r\n " + x(500)},
		{"y " + x(500) + " z", "A: y\r\n " + x(500) + "\r\n z"},
		{"y " + x(72) + " z", "A: y\r\n " + x(72) + " z"},
		{"y " + x(73) + " z", "A: y\r\n " + x(73) + " z"},
		{"y " + x(74) + " z", "A: y\r\n " + x(74) + "\r\n z"},
		{"y " + x(75) + " z", "A: y\r\n " + x(75) + "\r\n z"},
		{x(72) + "    y", "A: " + x(72) + "\r\n    y"},
		{x(69) + "   y", "A: " + x(69) + "   y"},
		{x(70) + "   y", "A: " + x(70) + "\r\n   y"},
		{"y" + strings.Repeat(" ", 80) + "z z", "A: y\r\n" + strings.Repeat(" ", 80) + "z\r\n z"},
		{x(60) + "\t" + x(60) + " y", "A: " + x(60) + "\t" + x(60) + "\r\n y"},
		{x(72) + " \ty", "A: " + x(72) + "\r\n \ty"},
		{x(72) + " \t y", "A: " + x(72) + "\r\n \t y"},
		{x(72) + "\t y", "A: " + x(72) + "\t\r\n y"},
		{x(40) + " " + x(40) + " " + x(40), "A: " + x(40) + "\r\n " + x(40) + "\r\n " + x(40)},
	} {
		wantWrite(t, fields("A", c.value), c.want+"\r\n\r\n")
		wantWrite(t, fields("A", c.value, "A", c.value), c.want+"\r\n"+c.want+"\r\n\r\n")
	}
	wantWrite(t, fields(x(80), "y z"), x(80)+": y\r\n z\r\n\r\n")
	wantWrite(t, fields(x(72), "y z"), x(72)+": y\r\n z\r\n\r\n")
	wantWrite(t, fields(x(71), "y z"), x(71)+": y z\r\n\r\n")
	wantWrite(t, fields(x(80), x(80)), x(80)+": "+x(80)+"\r\n\r\n")
}

func TestWriteWrong(t *testing.T) {
	for _, c := range []struct {
		in []api.Field
		at int
	}{
		{fields("", "b"), 0},
		{fields("A:", "b"), 0},
		{fields("A b", "b"), 0},
		{fields("A", " b"), 0},
		{fields("A", "b\t"), 0},
		{fields("A", "b\r\n c"), 0},
		{fields("A", "b", "C", "d\x7f"), 1},
		{fields("A", "b", "C", "d ", "", ""), 1},
		{fields("A", "b", "C", "d", "", "e"), 2},
	} {
		wantWriteWrong(t, c.in, c.at)
	}
}

func TestGet(t *testing.T) {
	l := fields("A", "1", "b-C", "2", "a", "3", "D", "", "E", " 4 ", "[", "5", "\xc3\x89", "6")
	for _, c := range []struct {
		name, want string
		ok         bool
	}{
		{"A", "1", true},
		{"a", "1", true},
		{"B-c", "2", true},
		{"b-C", "2", true},
		{"d", "", true},
		{"e", " 4 ", true},
		{"[", "5", true},
		{"\xc3\x89", "6", true},
		{"{", "", false},
		{"\xc3\xa9", "", false},
		{"\xe3\xa9", "", false},
		{"", "", false},
		{"b", "", false},
		{"b-", "", false},
		{"b-cd", "", false},
		{" a", "", false},
		{"a:", "", false},
		{"f", "", false},
	} {
		if got, ok := head.Get(l, c.name); got != c.want || ok != c.ok {
			t.Errorf("%q: got %q, %v, want %q, %v", c.name, got, ok, c.want, c.ok)
		}
	}
	if got, ok := head.Get(nil, "a"); got != "" || ok {
		t.Errorf("of none: got %q, %v", got, ok)
	}
}

func TestGetEachByte(t *testing.T) {
	for i := range 256 {
		for j := range 256 {
			a, b := bytes(byte(i)), bytes(byte(j))
			want := i == j || i^j == 32 && min(i, j) >= 'A' && min(i, j) <= 'Z'
			if _, ok := head.Get(fields(a, "v"), b); ok != want {
				t.Errorf("%q by %q: %v", a, b, ok)
			}
		}
	}
}

// What a head's lines are is that head: of the first sentence of what is to be true of the whole.

func comesBack(t *testing.T, l []api.Field, rest string) {
	t.Helper()
	s, err := head.Write(l)
	if err != nil {
		t.Errorf("%q: %v", l, err)
		return
	}
	read, got, err := head.Read(s + rest)
	if got != rest || err != nil {
		t.Errorf("%q: written as %q, behind it %q, %v", l, s, got, err)
	}
	wantClean(t, read, l)
	linesAreFull(t, s)
}

// linesAreFull asks that a line is too long only where it can't be cut, and is cut only where it would be too long.
func linesAreFull(t *testing.T, s string) {
	t.Helper()
	lines := strings.Split(strings.TrimSuffix(s, "\r\n\r\n"), "\r\n")
	for i, line := range lines {
		behind := strings.TrimLeft(line, " ")
		if i == 0 || line == behind {
			_, behind, _ = strings.Cut(line, ": ")
		}
		if len(line) > api.MaxLine && strings.Contains(behind, " ") {
			t.Errorf("%q: too long a line %q", s, line)
		}
		if i+1 < len(lines) && strings.HasPrefix(lines[i+1], " ") {
			next := lines[i+1]
			blanks := len(next) - len(strings.TrimLeft(next, " "))
			word, _, _ := strings.Cut(next[blanks:], " ")
			if len(line)+blanks+len(word) <= api.MaxLine {
				t.Errorf("%q: cut too early behind %q", s, line)
			}
		}
	}
}

// draws are numbers that look drawn, the same each time.
func draws() func(int) int {
	state := uint32(1)
	return func(most int) int {
		state = state*1664525 + 1013904223
		return int(state>>8) % most
	}
}

func TestHeadsComeBack(t *testing.T) {
	draw := draws()
	pieces := []string{"a", "bcd", " ", "  ", " ", "\t", ": ", "\xff", x(20), x(74), x(75), x(76)}
	for range 3000 {
		var l []api.Field
		for range draw(4) {
			var b strings.Builder
			for range draw(30) {
				b.WriteString(pieces[draw(len(pieces))])
			}
			l = append(l, api.Field{Name: x(1 + draw(80)), Value: strings.Trim(b.String(), " \t")})
		}
		comesBack(t, l, []string{"", "\r\n", "rest", " rest", "A: b\r\n"}[draw(5)])
	}
	for _, v := range texts([]string{"a", " ", "\t", x(72)}, 5) {
		comesBack(t, fields("A", strings.Trim(v, " \t")), "rest")
	}
}

func FuzzHeadsComeBack(f *testing.F) {
	f.Add("A", x(70)+" b", "C", "d  e", "rest")
	f.Fuzz(func(t *testing.T, a, b, c, d, rest string) {
		if l := fields(a, b, c, d); head.Right(l) {
			comesBack(t, l, rest)
		}
	})
}

func FuzzReadAsTold(f *testing.F) {
	f.Add("A: b\r\n c\r\n\r\nrest")
	f.Fuzz(func(t *testing.T, s string) { readAsTold(t, s) })
}
