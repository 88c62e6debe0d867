package kind_test

import (
	"mime"
	"regexp"
	"slices"
	"strings"
	"testing"

	"bindery/api"
	"bindery/kind"
	"bindery/plain"
)

// params is parameters of names and what they say, by turns.
func params(l ...string) []api.Param {
	var out []api.Param
	for i := 0; i < len(l); i += 2 {
		out = append(out, api.Param{Name: l[i], Value: l[i+1]})
	}
	return out
}

func bytes(l ...byte) string { return string(l) }

func wantRead(t *testing.T, s, main string, l []api.Param) {
	t.Helper()
	if m, got, err := kind.Read(s); m != main || !slices.Equal(got, l) || err != nil {
		t.Errorf("%q: got %q, %q, %v, want %q, %q", s, m, got, err, main, l)
	}
}

// wantReadWrong asks for ErrForm alone: no place, and nothing beside it.
func wantReadWrong(t *testing.T, s string) {
	t.Helper()
	m, l, err := kind.Read(s)
	if e, place := plain.Place(err); e != api.ErrForm || place != -1 || m != "" || len(l) != 0 {
		t.Errorf("%q: got %q, %q, error %d at %d, want ErrForm alone", s, m, l, e, place)
	}
}

func wantWrite(t *testing.T, main string, l []api.Param, want string) {
	t.Helper()
	if got, err := kind.Write(main, l); got != want || err != nil {
		t.Errorf("%q, %q: got %q, %v, want %q", main, l, got, err, want)
	}
}

// wantWriteWrong asks for ErrArg at a place (-1: without one), and nothing beside it.
func wantWriteWrong(t *testing.T, main string, l []api.Param, at int) {
	t.Helper()
	got, err := kind.Write(main, l)
	if e, place := plain.Place(err); e != api.ErrArg || place != at || got != "" {
		t.Errorf("%q, %q: got %q, error %d at %d, want ErrArg at %d", main, l, got, e, place, at)
	}
}

// inToken and maySay are the chapter's own words, byte by byte.
func inToken(c byte) bool {
	return c >= 33 && c <= 126 && strings.IndexByte(`()<>@,;:\"/[]?=`, c) < 0
}

func maySay(c byte) bool { return c >= 32 && c <= 126 }

func isBlank(c byte) bool { return c == ' ' || c == '\t' }

func isGreat(c byte) bool { return c >= 'A' && c <= 'Z' }

// 3.1

func TestRead(t *testing.T) {
	for _, c := range []struct {
		in, main string
		want     []api.Param
	}{
		{`Text/HTML; a="b c"; D=e`, "text/html", params("a", "b c", "d", "e")},
		{"a", "a", nil},
		{"A", "a", nil},
		{"a/b", "a/b", nil},
		{" \ta/b\t ", "a/b", nil},
		{"!#$%&'*+-.^_`{|}~/0", "!#$%&'*+-.^_`{|}~/0", nil},
		{"a;b=c", "a", params("b", "c")},
		{" a/B \t;\t b\t = \tc\t ", "a/b", params("b", "c")},
		{"a;b=c;d=e;f=g", "a", params("b", "c", "d", "e", "f", "g")},
		{"a ; b = c ; d = e", "a", params("b", "c", "d", "e")},
		{"a;b=c;b=c;B=D", "a", params("b", "c", "b", "c", "b", "D")},
		{"a;Boundary=AbC", "a", params("boundary", "AbC")},
		{"a;!#$%&'*+-.^_`{|}~=!#$%&'*+-.^_`{|}~", "a", params("!#$%&'*+-.^_`{|}~", "!#$%&'*+-.^_`{|}~")},
		{`a;b=""`, "a", params("b", "")},
		{`a;b=" "`, "a", params("b", " ")},
		{`a;b=" c D "`, "a", params("b", " c D ")},
		{`a;b="c" ;d="e"` + "\t", "a", params("b", "c", "d", "e")},
		{`a;b="c";d=e`, "a", params("b", "c", "d", "e")},
		{`a;b="; c=d"`, "a", params("b", "; c=d")},
		{`a;b="()<>@,;:/[]?="`, "a", params("b", "()<>@,;:/[]?=")},
		{`a;b="\""`, "a", params("b", `"`)},
		{`a;b="\\"`, "a", params("b", `\`)},
		{`a;b="\\\""`, "a", params("b", `\"`)},
		{`a;b="\\";c="\""`, "a", params("b", `\`, "c", `"`)},
		{`a;b="\c\ \D\;"`, "a", params("b", "c D;")},
		{`a;b="c\"d" ; e="\\f"`, "a", params("b", `c"d`, "e", `\f`)},
		{`a;b="<x@y>"`, "a", params("b", "<x@y>")},
	} {
		wantRead(t, c.in, c.main, c.want)
	}
}

func TestReadWrong(t *testing.T) {
	for _, s := range []string{
		"", " ", "\t", ";", "; a=b", "/", "a/", "/b", "a//b", "a/b/", "a/b/c", "/a/b", "a /b", "a/ b", "a b", "a\tb", "a,b", "a=b", "a:", `"a"`, "a/b=c", "a\r\n", "a\n", "\xc3\xa9", "a/\xff", "a\x7f",
		"a;", "a; ", "a;;", "a;\t", "a;b", "a;b ", "a;b=", "a;b= ", "a;b=\t", "a;=", "a;=c", "a; =c", "a;b c", "a;b c=d", "a;b/c=d", `a;"b"=c`, "a;b:=c", "a;b==c", "a;b=c=d", "a;b=;c=d", "a;b;c=d", "a;\xc3\xa9=c", "a;b\r\n=c",
		"a;b=c;", "a;b=c; ", "a;b=c;;d=e", "a;b=c d", "a;b=c d=e", "a;b=c,d=e", "a;b=c/d", "a;b=<c>", "a;b=c:", `a;b=c"`, `a;b=c"d"`, `a;b=c\d`, "a;b=\xc3\xa9", "a;b=c\xff", "a;b=c\x7f", "a;b=c\r\n", "a;b=c\n;d=e", "a;b=\x00",
		`a;b="`, `a;b="c`, `a;b="c;d=e`, `a;b="\"`, `a;b="\`, `a;b="c\`, `a;b="\\\"`, `a;b="c"d`, `a;b="c" d`, `a;b="c""d"`, `a;b="c"=`, `a;b="c"/`, `a;b="c";`, `a;b="c"; `, `a;b='c d'`,
		"a;b=\"\t\"", "a;b=\"\\\t\"", "a;b=\"c\r\n d\"", "a;b=\"\x1f\"", "a;b=\"\x7f\"", "a;b=\"\xc3\xa9\"", "a;b=\"\\\xc3\xa9\"", "a;b=\"\xff\"", "a;b=\"\\\x00\"", "a;b=\"c\xff",
		"a/;b=c", "A B;b=c", " ;b=c",
	} {
		wantReadWrong(t, s)
	}
}

func TestReadEachByteOfMain(t *testing.T) {
	for i := range 256 {
		c := byte(i)
		small := api.Small(bytes(c))
		for _, s := range [][2]string{{"", ""}, {"x", ""}, {"", "x"}, {"x/", ""}, {"", "/x"}} {
			in := s[0] + bytes(c) + s[1]
			switch {
			case inToken(c):
				wantRead(t, in, s[0]+small+s[1], nil)
				wantRead(t, in+";b=c", s[0]+small+s[1], params("b", "c"))
			case isBlank(c) && (in == "x"+bytes(c) || in == bytes(c)+"x"):
				wantRead(t, in, "x", nil)
			default:
				wantReadWrong(t, in)
				wantReadWrong(t, in+";b=c")
			}
		}
	}
	for i := range 256 {
		switch c := byte(i); {
		case c == '/' || inToken(c):
			wantRead(t, bytes('x', c, 'y'), api.Small(bytes('x', c, 'y')), nil)
		default:
			wantReadWrong(t, bytes('x', c, 'y'))
		}
	}
}

func TestReadEachByteOfAName(t *testing.T) {
	for i := range 256 {
		c := byte(i)
		for _, name := range []string{bytes(c), bytes('n', c), bytes(c, 'n'), bytes('n', c, 'n')} {
			s := "a;" + name + "=v;w=x"
			switch {
			case inToken(c):
				wantRead(t, s, "a", params(api.Small(name), "v", "w", "x"))
			case isBlank(c) && (name == bytes('n', c) || name == bytes(c, 'n')):
				wantRead(t, s, "a", params("n", "v", "w", "x"))
			default:
				wantReadWrong(t, s)
			}
		}
	}
}

func TestReadEachByteOfAValue(t *testing.T) {
	for i := range 256 {
		c := byte(i)
		for _, v := range []string{bytes(c), bytes('v', c), bytes(c, 'v'), bytes('v', c, 'v')} {
			s := "a;n=" + v + ";w=x"
			switch {
			case inToken(c):
				wantRead(t, s, "a", params("n", v, "w", "x"))
			case isBlank(c) && (v == bytes('v', c) || v == bytes(c, 'v')):
				wantRead(t, s, "a", params("n", "v", "w", "x"))
			default:
				wantReadWrong(t, s)
			}
		}
	}
}

func TestReadEachByteInQuotes(t *testing.T) {
	for i := range 256 {
		c := byte(i)
		plainly, slashed := `a;n="v`+bytes(c)+`w";x=y`, `a;n="v\`+bytes(c)+`w";x=y`
		want := params("n", bytes('v', c, 'w'), "x", "y")
		switch {
		case c == '\\':
			wantRead(t, plainly, "a", params("n", "vw", "x", "y"))
		case maySay(c) && c != '"':
			wantRead(t, plainly, "a", want)
		default:
			wantReadWrong(t, plainly)
		}
		if maySay(c) {
			wantRead(t, slashed, "a", want)
		} else {
			wantReadWrong(t, slashed)
		}
	}
}

// Behind what a parameter says stand blanks, the end, or a ; alone.
func TestReadEachByteBehind(t *testing.T) {
	for i := range 256 {
		c := byte(i)
		for _, s := range []string{`a;n="v"`, "a;n=v "} {
			if isBlank(c) {
				wantRead(t, s+bytes(c), "a", params("n", "v"))
				wantRead(t, s+bytes(c)+";w=x", "a", params("n", "v", "w", "x"))
			} else {
				wantReadWrong(t, s+bytes(c))
			}
			if c != ';' && !isBlank(c) {
				wantReadWrong(t, s+bytes(c)+"w=x")
				wantReadWrong(t, s+bytes(c)+";w=x")
			}
		}
	}
}

// The chapter's words as patterns: another reader.
const (
	tokenForm = `[^\x00-\x20\x7f-\x{10ffff}()<>@,;:\\"/\[\]?=]+`
	quoteForm = `"(?:[\x20\x21\x23-\x5b\x5d-\x7e]|\\[\x20-\x7e])*"`
	paramForm = `;[ \t]*(` + tokenForm + `)[ \t]*=[ \t]*(` + tokenForm + `|` + quoteForm + `)[ \t]*`
)

var (
	wholePattern = regexp.MustCompile(`^[ \t]*(` + tokenForm + `(?:/` + tokenForm + `)?)[ \t]*((?:` + paramForm + `)*)$`)
	paramPattern = regexp.MustCompile(paramForm)
	slashPattern = regexp.MustCompile(`\\(.)`)
)

func readByPattern(s string) (string, []api.Param, bool) {
	m := wholePattern.FindStringSubmatch(s)
	if m == nil {
		return "", nil, false
	}
	var l []api.Param
	for _, p := range paramPattern.FindAllStringSubmatch(m[2], -1) {
		v := p[2]
		if v[0] == '"' {
			v = slashPattern.ReplaceAllString(v[1:len(v)-1], "$1")
		}
		l = append(l, api.Param{Name: api.Small(p[1]), Value: v})
	}
	return api.Small(m[1]), l, true
}

func readAsTold(t *testing.T, s string) {
	t.Helper()
	main, l, ok := readByPattern(s)
	if !ok {
		wantReadWrong(t, s)
		return
	}
	wantRead(t, s, main, l)
	// What is read may be written, and is the same then.
	comesBack(t, main, l)
}

// texts are all texts of such pieces, up to a number of them.
func texts(pieces []string, most int) []string {
	all := []string{""}
	last := all
	for range most {
		var next []string
		for _, s := range last {
			for _, p := range pieces {
				next = append(next, s+p)
			}
		}
		all = append(all, next...)
		last = next
	}
	return all
}

func TestReadAsTold(t *testing.T) {
	for _, s := range texts([]string{"a", "B", "/", ";", " ", "\t", "="}, 5) {
		readAsTold(t, s)
	}
	for _, s := range texts([]string{"a", ";", "=", " ", `"`, `\`, "\t", "\xff"}, 5) {
		readAsTold(t, "a;b="+s)
		readAsTold(t, `a;b="`+s)
	}
	for _, s := range texts([]string{"A=b", `c="d e"`, ";", " ", "=", `f="\""`, "g"}, 5) {
		readAsTold(t, "Text/Html"+s)
	}
}

func TestReadMuch(t *testing.T) {
	const n = 200_000
	var l []api.Param
	for range n {
		l = append(l, api.Param{Name: "b", Value: "c"})
	}
	wantRead(t, "a"+strings.Repeat(";B=c", n), "a", l)
	wantReadWrong(t, "a"+strings.Repeat(";B=c", n)+";")
	wantRead(t, `a;b="`+strings.Repeat(`\"`, n)+`"`, "a", params("b", strings.Repeat(`"`, n)))
	wantReadWrong(t, `a;b="`+strings.Repeat(`\"`, n))
	wantRead(t, strings.Repeat(" ", n)+strings.Repeat("A", n), strings.Repeat("a", n), nil)
}

func TestReadTellsFreshLists(t *testing.T) {
	const s = "a;b=c;d=e"
	_, l, _ := kind.Read(s)
	l[0], l[1] = api.Param{}, api.Param{}
	wantRead(t, s, "a", params("b", "c", "d", "e"))
}

// 3.2

func TestWrite(t *testing.T) {
	for _, c := range []struct {
		main string
		l    []api.Param
		want string
	}{
		{"a", nil, "a"},
		{"a/b", []api.Param{}, "a/b"},
		{"text/html", params("a", "b c", "d", "e"), `text/html; a="b c"; d=e`},
		{"!#$%&'*+-.^_`{|}~/0", nil, "!#$%&'*+-.^_`{|}~/0"},
		{"a", params("b", "C"), "a; b=C"},
		{"a", params("b", "c", "b", "c", "b", "d"), "a; b=c; b=c; b=d"},
		{"a", params("b", ""), `a; b=""`},
		{"a", params("b", " "), `a; b=" "`},
		{"a", params("b", " c "), `a; b=" c "`},
		{"a", params("b", `"`), `a; b="\""`},
		{"a", params("b", `\`), `a; b="\\"`},
		{"a", params("b", `\"`), `a; b="\\\""`},
		{"a", params("b", `""\\`), `a; b="\"\"\\\\"`},
		{"a", params("b", `c"d`, "e", `f\g`), `a; b="c\"d"; e="f\\g"`},
		{"a", params("b", "c;d"), `a; b="c;d"`},
		{"a", params("b", "c/d"), `a; b="c/d"`},
		{"a", params("b", "<x@y>"), `a; b="<x@y>"`},
		{"a", params("!#$%&'*+-.^_`{|}~", "!#$%&'*+-.^_`{|}~"), "a; !#$%&'*+-.^_`{|}~=!#$%&'*+-.^_`{|}~"},
	} {
		wantWrite(t, c.main, c.l, c.want)
	}
}

func TestWriteWrongMain(t *testing.T) {
	for _, main := range []string{
		"", " ", "A", "a/B", "A/b", "a/b/c", "/", "a/", "/b", "a//b", " a", "a ", "a\t", "a b", "a;", "a; b=c", "a=b", `"a"`, `a\`, "a,b", "\x7f", "\xc3\xa9", "a/\xff", "a\r\n", "\x00",
	} {
		wantWriteWrong(t, main, nil, -1)
		wantWriteWrong(t, main, params("b", "c"), -1)
		// What main is is told ahead of what parameters are.
		wantWriteWrong(t, main, params("B", "c"), -1)
		wantWriteWrong(t, main, params("b", "\t"), -1)
	}
}

func TestWriteWrongParameter(t *testing.T) {
	for _, c := range []struct {
		l  []api.Param
		at int
	}{
		{params("", "c"), 0},
		{params("B", "c"), 0},
		{params("bC", "c"), 0},
		{params("b ", "c"), 0},
		{params("b c", "c"), 0},
		{params("b/c", "c"), 0},
		{params("b=", "c"), 0},
		{params("\xc3\xa9", "c"), 0},
		{params("b", "\t"), 0},
		{params("b", "c\r\n d"), 0},
		{params("b", "\x1f"), 0},
		{params("b", "\x7f"), 0},
		{params("b", "c\xc3\xa9"), 0},
		{params("b", "\xff"), 0},
		{params("b", "c", "D", "e"), 1},
		{params("b", "c", "d", "e\x00"), 1},
		{params("b", "c", "d", "\n", "", ""), 1},
		{params("b", "\n", "C", "d"), 0},
		{params("b", "c", "b", "c", "B", "\t", "d", "\t"), 2},
	} {
		wantWriteWrong(t, "a/b", c.l, c.at)
	}
}

func TestWriteEachByte(t *testing.T) {
	for i := range 256 {
		c := byte(i)
		for _, s := range []string{bytes(c), bytes('x', c), bytes(c, 'x'), bytes('x', c, 'x')} {
			if inToken(c) && !isGreat(c) {
				wantWrite(t, s, nil, s)
				wantWrite(t, s+"/y", nil, s+"/y")
				wantWrite(t, "y/"+s, nil, "y/"+s)
				wantWrite(t, "a", params(s, "v"), "a; "+s+"=v")
			} else {
				if s != "x/x" {
					wantWriteWrong(t, s, nil, -1)
				}
				wantWriteWrong(t, s+"/y", nil, -1)
				wantWriteWrong(t, "y/"+s, nil, -1)
				wantWriteWrong(t, "a", params("b", "c", s, "v"), 1)
			}
			writeEachValue(t, c, s)
		}
	}
}

func writeEachValue(t *testing.T, c byte, s string) {
	t.Helper()
	switch {
	case inToken(c):
		wantWrite(t, "a", params("n", s), "a; n="+s)
	case c == '"' || c == '\\':
		wantWrite(t, "a", params("n", s), `a; n="`+strings.ReplaceAll(s, bytes(c), `\`+bytes(c))+`"`)
	case maySay(c):
		wantWrite(t, "a", params("n", s), `a; n="`+s+`"`)
	default:
		wantWriteWrong(t, "a", params("b", "c", "n", s), 1)
	}
}

func TestWriteLeavesWhatItIsGiven(t *testing.T) {
	l := params("b", `c"`, "d", "e", "f", "g")
	wantWrite(t, "a", l[:2], `a; b="c\""; d=e`)
	if !slices.Equal(l, params("b", `c"`, "d", "e", "f", "g")) {
		t.Errorf("written into: %q", l)
	}
}

func TestGet(t *testing.T) {
	l := params("a", "1", "b", "", "a", "2", "C", "3", "", "4", "b", "5")
	for _, c := range []struct {
		name, want string
		ok         bool
	}{
		{"a", "1", true},
		{"b", "", true},
		{"C", "3", true},
		{"", "4", true},
		{"A", "", false},
		{"c", "", false},
		{"d", "", false},
		{"ab", "", false},
		{" a", "", false},
		{"a=", "", false},
	} {
		if got, ok := kind.Get(l, c.name); got != c.want || ok != c.ok {
			t.Errorf("%q: got %q, %v, want %q, %v", c.name, got, ok, c.want, c.ok)
		}
	}
	if got, ok := kind.Get(nil, "a"); got != "" || ok {
		t.Errorf("of none: got %q, %v", got, ok)
	}
}

// What a value is written as is that value: of the first sentence of what is to be true of the whole.

func comesBack(t *testing.T, main string, l []api.Param) {
	t.Helper()
	s, err := kind.Write(main, l)
	if err != nil {
		t.Errorf("%q, %q: %v", main, l, err)
		return
	}
	wantRead(t, s, main, l)
	wantWrite(t, main, l, s)
}

// readElsewhere asks another reader, else writer and reader could be wrong alike. It takes names once only, and those with * for something else.
func readElsewhere(t *testing.T, main string, l []api.Param) {
	t.Helper()
	s, _ := kind.Write(main, l)
	m, got, err := mime.ParseMediaType(s)
	if m != main || err != nil || len(got) != len(l) {
		t.Errorf("%q: read elsewhere as %q, %q, %v", s, m, got, err)
	}
	for _, p := range l {
		if v, ok := got[p.Name]; v != p.Value || !ok {
			t.Errorf("%q: read elsewhere: %q says %q, %v", s, p.Name, v, ok)
		}
	}
}

func TestValuesComeBack(t *testing.T) {
	for _, v := range texts([]string{"a", "B", " ", `"`, `\`, ";", "="}, 4) {
		l := params("b", v, "c", "d", "e", v)
		comesBack(t, "a", l)
		comesBack(t, "a/b", l)
		readElsewhere(t, "a/b", l)
	}
	for i := range 256 {
		if c := byte(i); maySay(c) {
			l := params("b", bytes(c), "c", bytes('x', c, c))
			comesBack(t, "a", l)
			readElsewhere(t, "a", l)
		}
	}
}

func FuzzValuesComeBack(f *testing.F) {
	f.Add("text/html", "a", "b c", "d", `"\`)
	f.Fuzz(func(t *testing.T, main, a, b, c, d string) {
		l := params(a, b, c, d)
		if _, err := kind.Write(main, l); err == nil {
			comesBack(t, main, l)
		}
	})
}

func FuzzReadAsTold(f *testing.F) {
	f.Add(`Text/HTML; a="b c"; D=e`)
	f.Add(`a ;b="\"\\" ; c = d`)
	f.Fuzz(func(t *testing.T, s string) { readAsTold(t, s) })
}
