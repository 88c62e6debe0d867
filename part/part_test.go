package part_test

import (
	"errors"
	"fmt"
	"io"
	"math/rand/v2"
	"mime/multipart"
	"regexp"
	"slices"
	"strings"
	"testing"

	"bindery/api"
	"bindery/head"
	"bindery/kind"
	"bindery/part"
	"bindery/plain"
	"bindery/text"
)

const mixed = "multipart/mixed; boundary=x"

// lines are such lines, each with CR and LF behind it.
func lines(l ...string) string {
	s := ""
	for _, line := range l {
		s += line + "\r\n"
	}
	return s
}

// fields is a head: names and values in turn.
func fields(l ...string) []api.Field {
	var out []api.Field
	for i := 0; i < len(l); i += 2 {
		out = append(out, api.Field{Name: l[i], Value: l[i+1]})
	}
	return out
}

// leaf is a part without parts.
func leaf(body string, l ...string) api.Part { return api.Part{Head: fields(l...), Body: body} }

// tree is a part with parts, which says what it is by a field that stands last.
func tree(kind string, parts ...api.Part) api.Part {
	return api.Part{Head: fields("Content-Type", kind), Many: true, Parts: parts}
}

// inMany is a text of a part with parts whose boundary is x.
func inMany(behind string) string { return lines("Content-Type: "+mixed, "") + behind }

func wantRead(t *testing.T, s string, want api.Part) {
	t.Helper()
	p, err := part.Read(s)
	if !plain.Same(p, want) || err != nil {
		t.Errorf("%.300q: got %.600q, %v, want %.600q", s, fmt.Sprint(p), err, fmt.Sprint(want))
	}
}

// wantReadWrong asks for an error without a place, and nothing beside it.
func wantReadWrong(t *testing.T, s string, want api.Errno) {
	t.Helper()
	p, err := part.Read(s)
	if e, place := plain.Place(err); e != want || place != -1 || !isZero(p) {
		t.Errorf("%.300q: got %.600q, error %d at %d, want error %d alone", s, fmt.Sprint(p), e, place, want)
	}
}

func isZero(p api.Part) bool {
	return p.Head == nil && p.Body == "" && !p.Many && p.Parts == nil
}

func wantWrite(t *testing.T, p api.Part, want string) {
	t.Helper()
	s, err := part.Write(p)
	if s != want || err != nil {
		t.Errorf("%.300q: got %.600q, %v, want %.600q", fmt.Sprint(p), s, err, want)
	}
}

// wantWriteWrong asks for an error without a place, and nothing beside it.
func wantWriteWrong(t *testing.T, p api.Part, want api.Errno) {
	t.Helper()
	s, err := part.Write(p)
	if e, place := plain.Place(err); e != want || place != -1 || s != "" {
		t.Errorf("%.300q: got %.600q, error %d at %d, want error %d alone", fmt.Sprint(p), s, e, place, want)
	}
}

// texts are all texts of such pieces, up to a number of them.
func texts(pieces []string, most int) []string {
	all := []string{""}
	last := all
	for range most {
		var next []string
		for _, s := range last {
			for _, p := range pieces {
				next = append(next, s+p)
			}
		}
		all = append(all, next...)
		last = next
	}
	return all
}

// 5.1

func TestReadBody(t *testing.T) {
	for _, c := range []struct {
		in   string
		want api.Part
	}{
		{"", leaf("")},
		{"\r\n", leaf("")},
		{"\r\nbody", leaf("body")},
		{"\r\n\r\n", leaf("\r\n")},
		{"A: b", leaf("", "A", "b")},
		{"A: b\r\n", leaf("", "A", "b")},
		{"A: b\r\n\r\n", leaf("", "A", "b")},
		{"A: b\r\n\r\n\x00\xff\r\n\n\r--x", leaf("\x00\xff\r\n\n\r--x", "A", "b")},
		// The head is cleaned, and a field's lines are one.
		{"A:\t b \r\n  c\t\r\nA:\r\n\r\nx", leaf("x", "A", "b   c", "A", "")},
		// What it says of itself stays in the head.
		{"Content-Type: text/html\r\n\r\nx", leaf("x", "Content-Type", "text/html")},
		{"content-type:Text/HTML;a=b\r\n\r\nx", leaf("x", "content-type", "Text/HTML;a=b")},
		{"Content-Type: multipart\r\n\r\nx", leaf("x", "Content-Type", "multipart")},
		{"Content-Type: multiparty/x\r\n\r\nx", leaf("x", "Content-Type", "multiparty/x")},
		{"Content-Type: x-multipart/x; boundary=x\r\n\r\nx", leaf("x", "Content-Type", "x-multipart/x; boundary=x")},
		{"Content-Typ: multipart/x\r\n\r\nx", leaf("x", "Content-Typ", "multipart/x")},
		// Only the first Content-Type counts.
		{"Content-Type: a/b\r\nContent-Type: multipart/x\r\n\r\nx", leaf("x", "Content-Type", "a/b", "Content-Type", "multipart/x")},
		{"Content-Type: a/b\r\ncontent-type: ;;\r\n\r\nx", leaf("x", "Content-Type", "a/b", "content-type", ";;")},
	} {
		wantRead(t, c.in, c.want)
	}
}

func TestReadBodyByItsEncoding(t *testing.T) {
	const name = "Content-Transfer-Encoding"
	for _, c := range []struct{ code, in, want string }{
		{"7bit", "=41\r\nTQ==\xff", "=41\r\nTQ==\xff"},
		{"8bit", "=41\r\nTQ==\xff", "=41\r\nTQ==\xff"},
		{"binary", "=41\r\nTQ==\xff", "=41\r\nTQ==\xff"},
		{"base64", "TW\r\nFu", "Man"},
		{"base64", "", ""},
		{"quoted-printable", "a=3Db=\r\n=20 \r\n", "a=b \r\n"},
		{"7Bit", "=41", "=41"},
		{"8BIT", "=41", "=41"},
		{"BINARY", "=41", "=41"},
		{"Base64", "TQ==", "M"},
		{"Quoted-PRINTABLE", "=41", "A"},
	} {
		wantRead(t, lines(name+": "+c.code, "")+c.in, leaf(c.want, name, c.code))
		wantRead(t, lines("CONTENT-transfer-encoding:"+c.code+"\t ", "")+c.in, leaf(c.want, "CONTENT-transfer-encoding", c.code))
		wantRead(t, lines(name+": "+c.code, name+": base64", name+": x", "")+c.in, leaf(c.want, name, c.code, name, "base64", name, "x"))
		wantRead(t, inMany(lines("--x", name+": "+c.code, "")+c.in+"\r\n--x--"), tree(mixed, leaf(c.want, name, c.code)))
	}
}

func TestReadWrong(t *testing.T) {
	const code = "Content-Transfer-Encoding: "
	const kind = "Content-Type: "
	for _, c := range []struct {
		in   string
		want api.Errno
	}{
		// No head.
		{"x", api.ErrForm},
		{" \r\n", api.ErrForm},
		{"A: b\r\nx\r\n\r\n", api.ErrForm},
		{":\r\n\r\n", api.ErrForm},
		{"\n", api.ErrForm},
		{"A: \x00\r\n\r\n", api.ErrArg},
		{"A: b\r\nC: \x7f\r\n\r\n", api.ErrArg},
		{"A: b\n\r\n", api.ErrArg},
		// Nothing that a part is.
		{kind + "\r\n\r\n", api.ErrForm},
		{kind + "a b\r\n\r\n", api.ErrForm},
		{kind + "a/b;\r\n\r\n", api.ErrForm},
		{kind + "multipart/\r\n\r\n", api.ErrForm},
		{kind + "a/\xe9\r\n\r\n", api.ErrForm},
		// Nothing that a body is.
		{code + "\r\n\r\n", api.ErrName},
		{code + "7 bit\r\n\r\n", api.ErrName},
		{code + "none\r\n\r\n", api.ErrName},
		{code + "x-token\r\n\r\n", api.ErrName},
		{code + "base64;\r\n\r\n", api.ErrName},
		{code + "base64\r\n\r\nTQ=", api.ErrForm},
		{code + "base64\r\n\r\nM===", api.ErrForm},
		{code + "quoted-printable\r\n\r\n=4", api.ErrForm},
		{code + "quoted-printable\r\n\r\n\xff", api.ErrForm},
		// The first wrong is told: head, what it is, how it is written.
		{"A: \x00\r\nx\r\n\r\n", api.ErrForm},
		{kind + "a b\r\nA: \x00\r\n\r\n", api.ErrArg},
		{code + "x\r\n" + kind + "a b\r\n\r\n", api.ErrForm},
	} {
		wantReadWrong(t, c.in, c.want)
		wantReadWrong(t, inMany("--x\r\n"+c.in+"\r\n--x--"), c.want)
		wantReadWrong(t, inMany("--x\r\n\r\nright\r\n--x\r\n"+c.in+"\r\n--x\r\nA: \x00\r\n--x--"), c.want)
	}
}

func TestReadBoundary(t *testing.T) {
	of := func(kind, edge string) string {
		return lines("Content-Type: "+kind, "", "--"+edge, "", "a", "--"+edge+"--")
	}
	long := strings.Repeat("b", 70)
	for _, c := range []struct{ kind, edge string }{
		{"multipart/mixed; boundary=x", "x"},
		{"Multipart/Related;a=b;BOUNDARY = x;c=d", "x"},
		{`multipart/x; boundary="x y"`, "x y"},
		{`multipart/x; boundary=" x"`, " x"},
		{`multipart/x; boundary="\"\\"`, `"\`},
		{`multipart/x; boundary="--"`, "--"},
		{`multipart/x; boundary=--`, "--"},
		{"multipart/x; boundary=" + long, long},
		// The first one counts.
		{"multipart/x; boundary=x; boundary=y", "x"},
		{`multipart/x; boundary=x; boundary=""`, "x"},
	} {
		wantRead(t, of(c.kind, c.edge), tree(c.kind, leaf("a")))
	}
	for _, c := range []struct{ kind, edge string }{
		{"multipart/x", ""},
		{"multipart/x; a=b", ""},
		{"multipart/x; xboundary=b", "b"},
		{`multipart/x; boundary=""`, ""},
		{`multipart/x; boundary=" "`, " "},
		{`multipart/x; boundary="x "`, "x "},
		{"multipart/x; boundary=" + long + "b", long + "b"},
		{`multipart/x; boundary=""; boundary=x`, "x"},
		{"multipart/x; boundary=x y", "x"},
		// It is text as it is, not in small letters.
		{"multipart/x; boundary=X", "x"},
	} {
		wantReadWrong(t, of(c.kind, c.edge), api.ErrForm)
	}
	// Of a part with parts only the first Content-Type counts, and how its body is written does not.
	two := lines("Content-Type: multipart/x; boundary=x", "content-type: a b", "Content-Transfer-Encoding: x", "", "--x", "", "a", "--x--")
	wantRead(t, two, api.Part{Head: fields("Content-Type", "multipart/x; boundary=x", "content-type", "a b", "Content-Transfer-Encoding", "x"), Many: true, Parts: []api.Part{leaf("a")}})
}

// 5.2

func TestReadParts(t *testing.T) {
	for _, c := range []struct {
		in   string
		want []api.Part
	}{
		{"--x--", nil},
		{"--x--\r\n", nil},
		{"--x\r\n\r\na\r\n--x--\r\n", []api.Part{leaf("a")}},
		{"--x\r\n\r\na\r\n--x\r\nA: b\r\n\r\nc\r\n--x--", []api.Part{leaf("a"), leaf("c", "A", "b")}},
		// What stands ahead, and behind, is nothing.
		{"ahead\r\n-- x\r\n --x\r\n\r\n--x\r\n\r\na\r\n--x--\r\nbehind\r\n--x\r\n:\r\n--x--\r\n", []api.Part{leaf("a")}},
		{"--x--\r\n--x\r\n\r\na\r\n--x--", nil},
		{"\r\n\r\n--x--", nil},
		// CR and LF ahead of a line are nothing of the part ahead of it.
		{"--x\r\n\r\na\r\n\r\n--x--", []api.Part{leaf("a\r\n")}},
		{"--x\r\n\r\n\r\n--x--", []api.Part{leaf("")}},
		{"--x\r\n\r\n--x--", []api.Part{leaf("")}},
		{"--x\r\n--x--", []api.Part{leaf("")}},
		{"--x\r\n--x\r\n--x\r\n--x--", []api.Part{leaf(""), leaf(""), leaf("")}},
		{"--x\r\nA: b\r\n--x--", []api.Part{leaf("", "A", "b")}},
		{"--x\r\nA: b\r\n\r\n--x--", []api.Part{leaf("", "A", "b")}},
		{"--x\r\nA: b\r\n\r\n\r\n--x--", []api.Part{leaf("", "A", "b")}},
		// Blanks and tabs.
		{"--x \t \r\n\r\na\r\n--x\t --\t ", []api.Part{leaf("a")}},
		{"--x \r\n\r\na\r\n--x --\r\n", []api.Part{leaf("a")}},
		// Lines that are none of them.
		{"--x\r\n\r\n--xx\r\n--X\r\n-x\r\n---x\r\nx--\r\n --x\r\n--x-\r\n--x---\r\n--x- -\r\n--x--x\r\n-- x\r\n--\r\n--x\x00\r\n--x--", []api.Part{leaf("--xx\r\n--X\r\n-x\r\n---x\r\nx--\r\n --x\r\n--x-\r\n--x---\r\n--x- -\r\n--x--x\r\n-- x\r\n--\r\n--x\x00")}},
		// CR, or LF, by itself ends no line.
		{"--x\r\n\r\na\n--x--\r--x\n\r\n--x--", []api.Part{leaf("a\n--x--\r--x\n")}},
		{"--x\r\n\r\n\r\r\n--x--", []api.Part{leaf("\r")}},
	} {
		wantRead(t, inMany(c.in), tree(mixed, c.want...))
	}
}

func TestReadPartsWrong(t *testing.T) {
	for _, in := range []string{
		"",
		"\r\n",
		"a",
		"--x",
		"--x\r\n",
		"--x\r\n\r\na\r\n",
		"--x\r\n\r\na\r\n--x",
		"--x\r\n\r\na--x--",
		"--x\r\n\r\na\n--x--",
		"--x\r\n\r\na\r--x--",
		"--x\r\n\r\na\r\n --x--",
		"--x\r\n\r\na\r\n--x-",
		"--x\r\n\r\na\r\n--x- -",
		"--x\r\n\r\na\r\n--x--a",
		"--x\r\n\r\na\r\n--X--",
		"--x\r\n\r\na\r\n--y--",
		// That none ends all is told ahead of what is wrong in a part.
		"--x\r\nA: \x00\r\n\r\na",
		"--x\r\nContent-Transfer-Encoding: y\r\n\r\na\r\n--x\r\n",
	} {
		wantReadWrong(t, inMany(in), api.ErrForm)
	}
	wantReadWrong(t, "Content-Type: "+mixed, api.ErrForm)
	// Parts are read in turn, each one wholly.
	bad := func(first, next string) string { return inMany(lines("--x", first, "--x", next, "--x--")) }
	wantReadWrong(t, bad("A: \x00", "b"), api.ErrArg)
	wantReadWrong(t, bad("b", "A: \x00"), api.ErrForm)
	inner := lines("Content-Type: multipart/x; boundary=y", "", "--y", "Content-Transfer-Encoding: z", "--y--")
	wantReadWrong(t, bad(inner, "A: \x00"), api.ErrName)
	wantReadWrong(t, bad("A: \x00", inner), api.ErrArg)
}

func TestReadPartsInParts(t *testing.T) {
	inner := func(edge, behind string) string {
		return lines("Content-Type: multipart/x; boundary="+edge, "") + behind
	}
	s := inMany("--x\r\n" + inner("y", "--y\r\n\r\na\r\n--x\r\n--y--\r\n--y--") + "\r\n--x--")
	// The line --x ends the part ahead of it, wherever it stands: of the inner one none ends all.
	wantReadWrong(t, s, api.ErrForm)
	s = inMany("--x\r\n" + inner("xy", "--xy\r\n\r\na\r\n--xy--") + "\r\n--x\r\n\r\nb\r\n--x--")
	wantRead(t, s, tree(mixed, tree("multipart/x; boundary=xy", leaf("a")), leaf("b")))
	s = inMany("--x\r\n" + inner("x", "--x\r\n\r\na\r\n--x--") + "\r\n--x--")
	wantReadWrong(t, s, api.ErrForm)
	// A boundary that ends in -- may look as if it ended another one's parts.
	s = lines("Content-Type: multipart/x; boundary=x--", "", "--x--", "", "a", "--x----")
	wantRead(t, s, tree("multipart/x; boundary=x--", leaf("a")))
}

var (
	beginsOne = regexp.MustCompile("^--x[ \t]*\\z")
	endsAll   = regexp.MustCompile("^--x[ \t]*--[ \t]*\\z")
)

// slowCut is the texts of parts whose boundary is x, by 5.2's words: each place is asked whether a line begins there.
func slowCut(s string) ([]string, bool) {
	var cuts []string
	from := -1
	for i := 0; i <= len(s); i++ {
		if i > 0 && !strings.HasSuffix(s[:i], "\r\n") {
			continue
		}
		line := s[i:]
		if n := strings.Index(line, "\r\n"); n >= 0 {
			line = line[:n]
		}
		b, e := beginsOne.MatchString(line), endsAll.MatchString(line)
		if (b || e) && from >= 0 {
			cuts = append(cuts, s[from:max(from, i-2)])
		}
		if e {
			return cuts, true
		}
		if b {
			from = i + len(line) + 2
		}
	}
	return nil, false
}

func TestReadPartsAsSlowly(t *testing.T) {
	pieces := []string{"--x", "--", "-", " ", "\t", "\r\n", "\r", "\n", "a"}
	for _, s := range texts(pieces, 5) {
		for _, s := range []string{s, "--x\r\n\r\n" + s + "\r\n--x--", "--x" + s + "\r\n--x--"} {
			cuts, ok := slowCut(s)
			want, wrong := tree(mixed), error(api.ErrForm)
			if ok {
				wrong = nil
			}
			for _, c := range cuts {
				p, err := part.Read(c)
				if wrong == nil {
					wrong = err
				}
				want.Parts = append(want.Parts, p)
			}
			if wrong != nil {
				wantReadWrong(t, inMany(s), api.Tell(wrong))
			} else {
				wantRead(t, inMany(s), want)
			}
		}
	}
}

// Limits of 5.1.

func TestReadBytes(t *testing.T) {
	full := "\r\n" + strings.Repeat("x", api.MaxBytes-2)
	wantRead(t, full, leaf(full[2:]))
	wantReadWrong(t, full+"x", api.ErrLimit)
	wantReadWrong(t, strings.Repeat("x", api.MaxBytes), api.ErrForm)
	wantReadWrong(t, strings.Repeat("x", api.MaxBytes+1), api.ErrLimit)
	wantReadWrong(t, strings.Repeat("\r\n", 1<<20), api.ErrLimit)
}

// flat is a text of so many parts in one.
func flat(n int, last string) string {
	return inMany(strings.Repeat("--x\r\n\r\na\r\n", n) + "--x\r\n" + last + "\r\n--x--")
}

func TestReadManyParts(t *testing.T) {
	p, err := part.Read(flat(api.MaxParts-2, "\r\nb"))
	if err != nil || len(p.Parts) != api.MaxParts-1 || p.Parts[api.MaxParts-2].Body != "b" {
		t.Errorf("got %d parts, %v", len(p.Parts), err)
	}
	wantReadWrong(t, flat(api.MaxParts-1, "\r\nb"), api.ErrLimit)
	// The limit is told ahead of all else of that part, and behind all that stands ahead of it.
	wantReadWrong(t, flat(api.MaxParts-2, "A: \x00"), api.ErrArg)
	wantReadWrong(t, flat(api.MaxParts-1, "A: \x00"), api.ErrLimit)
	wantReadWrong(t, flat(1000, "A: \x00"), api.ErrLimit)
	wantReadWrong(t, inMany("--x\r\nA: \x00\r\n"+strings.Repeat("--x\r\n", 100)+"--x--"), api.ErrArg)
	wantReadWrong(t, inMany(strings.Repeat("--x\r\n", 100)), api.ErrForm)
	// All parts count, wherever they stand.
	inner := lines("Content-Type: multipart/x; boundary=y", "") + strings.Repeat("--y\r\n", 18) + "--y--"
	s := inMany(lines("--x", inner, "--x", inner, "--x--"))
	if _, err := part.Read(s); err != nil {
		t.Errorf("39 parts: %v", err)
	}
	s = inMany(lines("--x", inner, "--x", inner, "--x", "--x--"))
	if _, err := part.Read(s); err != nil {
		t.Errorf("40 parts: %v", err)
	}
	wantReadWrong(t, inMany(lines("--x", inner, "--x", inner, "--x", "--x", "--x--")), api.ErrLimit)
	wantReadWrong(t, inMany(lines("--x", "--x", "--x", inner, "--x", inner, "--x--")), api.ErrLimit)
}

// nested is a text of a part in so many others.
func nested(n int, inside string) string {
	if n == 0 {
		return inside
	}
	edge := fmt.Sprint("e", n, ".")
	return lines("Content-Type: multipart/x; boundary="+edge, "", "--"+edge, nested(n-1, inside), "--"+edge+"--")
}

func TestReadDeep(t *testing.T) {
	want := leaf("a")
	for n := range api.MaxDepth {
		wantRead(t, nested(n, "\r\na"), want)
		want = tree(fmt.Sprint("multipart/x; boundary=e", n+1, "."), want)
	}
	for n := api.MaxDepth; n < 100; n++ {
		wantReadWrong(t, nested(n, "\r\na"), api.ErrLimit)
	}
	wantReadWrong(t, nested(api.MaxDepth-1, "A: \x00"), api.ErrArg)
	wantReadWrong(t, nested(api.MaxDepth, "A: \x00"), api.ErrLimit)
	// What has no parts in it may be as deep as any part.
	empty := "Content-Type: multipart/x; boundary=y\r\n\r\n--y--"
	if _, err := part.Read(nested(api.MaxDepth-1, empty)); err != nil {
		t.Errorf("parts, but none, at the bottom: %v", err)
	}
}

// 5.3

func TestWriteBody(t *testing.T) {
	const name = "Content-Transfer-Encoding"
	for _, c := range []struct {
		p    api.Part
		want string
	}{
		{leaf(""), lines(name+": 7bit", "")},
		{leaf("a"), lines(name+": 7bit", "") + "a"},
		{leaf("a", "A", "b", "C", ""), lines("A: b", "C: ", name+": 7bit", "") + "a"},
		{leaf("a", "A", strings.Repeat("w", 60)+"  "+strings.Repeat("v", 60)), lines("A: "+strings.Repeat("w", 60), "  "+strings.Repeat("v", 60), name+": 7bit", "") + "a"},
		// What was said of how the body is written is gone.
		{leaf("a", name, "base64", "A", "b"), lines("A: b", name+": 7bit", "") + "a"},
		{leaf("a", "A", "b", "content-TRANSFER-encoding", "x", name, "", "C", "d"), lines("A: b", "C: d", name+": 7bit", "") + "a"},
		{leaf("a", name+"s", "x"), lines(name+"s: x", name+": 7bit", "") + "a"},
		// What the part is stays as it is.
		{leaf("a", "Content-Type", "Text/HTML;A=\"b\""), lines("Content-Type: Text/HTML;A=\"b\"", name+": 7bit", "") + "a"},
		{leaf("a", "Content-Type", "multipart"), lines("Content-Type: multipart", name+": 7bit", "") + "a"},
		{leaf("a", "Content-Type", "a/b", "Content-Type", mixed, "Content-Type", ";"), lines("Content-Type: a/b", "Content-Type: "+mixed, "Content-Type: ;", name+": 7bit", "") + "a"},
	} {
		wantWrite(t, c.p, c.want)
	}
}

func TestWriteBodyByItsBytes(t *testing.T) {
	with := func(code, written string) string { return lines("Content-Transfer-Encoding: "+code, "") + written }
	for _, b := range []string{"", " ", "~", "\t", "\r\n", "\r\n\r\n", " \r\n\t", strings.Repeat("x", 5000), "a=b", "--b0\r\n"} {
		wantWrite(t, leaf(b), with("7bit", b))
	}
	for c := range 256 {
		b := "aaaaaaaa" + string([]byte{byte(c)}) + "a"
		if c == '\t' || c >= 32 && c <= 126 {
			wantWrite(t, leaf(b), with("7bit", b))
		} else {
			wantWrite(t, leaf(b), with("quoted-printable", text.Quote(b)))
		}
	}
	for _, b := range []string{"\r", "\n", "\n\r", "\r\r\n", "\r\n\n", "\r\r\n\n", "a\nb", "a\r"} {
		code, written := "quoted-printable", text.Quote(b)
		if len(text.Pack(b)) < len(written) {
			code, written = "base64", text.Pack(b)
		}
		wantWrite(t, leaf(b), with(code, written))
	}
	// The shorter one, and quoted, if both are as long.
	wantWrite(t, leaf("\xff"), with("quoted-printable", "=FF"))
	wantWrite(t, leaf("\xff\xff"), with("quoted-printable", "=FF=FF"))
	wantWrite(t, leaf("\xff\xff\xff"), with("base64", "////\r\n"))
	wantWrite(t, leaf("abc\xff"), with("quoted-printable", "abc=FF"))
	wantWrite(t, leaf("a\xff\xff\xff"), with("quoted-printable", "a=FF=FF=FF"))
	wantWrite(t, leaf("\xff\xff\xff\xff"), with("base64", "/////w==\r\n"))
}

func TestWriteMany(t *testing.T) {
	const seven = "Content-Transfer-Encoding: 7bit"
	kind := func(edge string) string { return "Content-Type: multipart/mixed; boundary=" + edge }
	wantWrite(t, tree(mixed), lines(kind("b0"), "", "--b0--"))
	wantWrite(t, tree(mixed, leaf("a")), lines(kind("b0"), "", "--b0", seven, "", "a", "--b0--"))
	wantWrite(t, tree(mixed, leaf("a\r\n"), leaf("", "A", "b")), lines(kind("b0"), "", "--b0", seven, "", "a", "", "--b0", "A: b", seven, "", "", "--b0--"))
	wantWrite(t, tree(mixed, leaf("\xff\xff\xff")), lines(kind("b0"), "", "--b0", "Content-Transfer-Encoding: base64", "", "////", "", "--b0--"))
	// Inner ones have their boundaries first.
	wantWrite(t, tree(mixed, tree(mixed, leaf("a")), tree(mixed)), lines(kind("b1"), "",
		"--b1", kind("b0"), "", "--b0", seven, "", "a", "--b0--", "",
		"--b1", kind("b0"), "", "--b0--", "",
		"--b1--"))
	// Of a part with parts nothing is said of how it is written.
	p := tree(mixed, leaf("a"))
	p.Head = fields("A", "b", "content-transfer-encoding", "7bit", "CONTENT-TYPE", mixed, "Content-Type", "x y")
	wantWrite(t, p, lines("A: b", "CONTENT-TYPE: multipart/mixed; boundary=b0", "Content-Type: x y", "", "--b0", seven, "", "a", "--b0--"))
}

func TestWriteKind(t *testing.T) {
	for _, c := range []struct{ in, want string }{
		{"Multipart/MIXED;Boundary=X", "multipart/mixed; boundary=b0"},
		{`multipart/x; A="b"; boundary="x y"; c="d e"`, `multipart/x; a=b; boundary=b0; c="d e"`},
		{"multipart/x; boundary=x; boundary=y", "multipart/x; boundary=b0; boundary=y"},
		{`multipart/x; boundary=x; boundary=""`, `multipart/x; boundary=b0; boundary=""`},
		{`multipart/x ; boundary="\x" ; a="\"\\"`, `multipart/x; boundary=b0; a="\"\\"`},
		{"multipart/x; boundary=" + strings.Repeat("y", 70), "multipart/x; boundary=b0"},
		{"multipart/x;\tboundary=x", "multipart/x; boundary=b0"},
	} {
		wantWrite(t, tree(c.in), lines("Content-Type: "+c.want, "", "--b0--"))
	}
}

func TestWriteBoundary(t *testing.T) {
	for _, c := range []struct {
		parts []api.Part
		want  string
	}{
		{nil, "b0"},
		{[]api.Part{leaf("b0 -b0 - -b0 --B0 --b")}, "b0"},
		{[]api.Part{leaf("--b0")}, "b1"},
		{[]api.Part{leaf("x---b0y")}, "b1"},
		{[]api.Part{leaf("--b01")}, "b1"},
		{[]api.Part{leaf("--b1 --b2")}, "b0"},
		{[]api.Part{leaf("--b0 --b2")}, "b1"},
		{[]api.Part{leaf("--b1"), leaf("--b0")}, "b2"},
		{[]api.Part{leaf("", "A", "--b0")}, "b1"},
		{[]api.Part{leaf("", "--b0", "")}, "b1"},
		// b10 has b1 in it, and parts are asked as they are written.
		{[]api.Part{leaf("--b10"), leaf("--b0")}, "b2"},
		{[]api.Part{leaf("\xff--b0")}, "b1"},
		{[]api.Part{leaf("\xff\xff\xff\xff\xff\xff--b0")}, "b0"},
		{[]api.Part{leaf("--b0 --b1 --b2 --b3 --b4 --b5 --b6 --b7 --b8 --b9")}, "b10"},
		{[]api.Part{tree("multipart/x; boundary=b7", leaf("--b7"))}, "b1"},
		{[]api.Part{tree(mixed, leaf("--b0")), leaf("--b0")}, "b2"},
	} {
		s, err := part.Write(tree(mixed, c.parts...))
		want := lines("Content-Type: multipart/mixed; boundary="+c.want, "")
		if err != nil || !strings.HasPrefix(s, want) || !strings.HasSuffix(s, "\r\n--"+c.want+"--\r\n") {
			t.Errorf("%q: got %q, %v, want %s", fmt.Sprint(c.parts), s, err, c.want)
		}
	}
	// All of b0 to b2499 are taken.
	taken := ""
	for i := range 2500 {
		taken += fmt.Sprint("--b", i)
	}
	s, err := part.Write(tree(mixed, leaf(taken)))
	if err != nil || !strings.HasSuffix(s, "\r\n--b2500--\r\n") {
		t.Errorf("got .. %q, %v", s[max(0, len(s)-30):], err)
	}
}

func TestWriteWrong(t *testing.T) {
	many := func(p api.Part) api.Part { p.Many = true; return p }
	for _, p := range []api.Part{
		// No head.
		leaf("", "", "a"),
		leaf("", "A b", "c"),
		leaf("", "A:", "c"),
		leaf("", "A", "b", "C", " d"),
		leaf("", "A", "b "),
		leaf("", "A", "\x00"),
		leaf("", "A", "b\r\nc"),
		leaf("", "Content-Transfer-Encoding", "7bit "),
		// Not of what it has.
		many(leaf("")),
		many(leaf("", "A", mixed)),
		many(leaf("", "Content-Type", "text/html; boundary=x")),
		many(leaf("", "Content-Type", "multipart")),
		many(leaf("", "Content-Type", "a/b", "Content-Type", mixed)),
		leaf("", "Content-Type", mixed),
		leaf("", "CONTENT-TYPE", "Multipart/x;boundary=x"),
		leaf("", "Content-Type", mixed, "Content-Type", "a/b"),
		{Head: fields("Content-Type", mixed), Many: true, Body: "a"},
		{Head: fields("Content-Type", mixed), Many: true, Body: "a", Parts: []api.Part{leaf("")}},
		{Parts: []api.Part{leaf("")}},
		{Head: fields("Content-Type", "a/b"), Parts: []api.Part{leaf("")}},
		// An error, where it is read.
		leaf("", "Content-Type", ""),
		leaf("", "Content-Type", "a b"),
		leaf("", "Content-Type", "a/b;"),
		leaf("", "Content-Type", "multipart/"),
		leaf("", "Content-Type", "multipart/x"),
		many(leaf("", "Content-Type", "a b; boundary=x")),
		many(leaf("", "Content-Type", "multipart/x")),
		many(leaf("", "Content-Type", "multipart/x; boundary=\"\"")),
		many(leaf("", "Content-Type", "multipart/x; boundary=\"x \"")),
		many(leaf("", "Content-Type", "multipart/x; boundary="+strings.Repeat("x", 71))),
		many(leaf("", "Content-Type", "multipart/x; boundary=\"\"; boundary=x")),
		many(leaf("", "Content-Type", "multipart/x; boundary=x;")),
	} {
		wantWriteWrong(t, p, api.ErrArg)
		wantWriteWrong(t, tree(mixed, p), api.ErrArg)
		wantWriteWrong(t, tree(mixed, leaf("a"), tree(mixed, p)), api.ErrArg)
	}
}

func TestWriteLimits(t *testing.T) {
	// So many parts in one, and the last one.
	flat := func(n int, last api.Part) api.Part {
		return tree(mixed, append(slices.Repeat([]api.Part{leaf("a")}, n), last)...)
	}
	wrong := leaf("", "", "")
	if _, err := part.Write(flat(api.MaxParts-2, leaf(""))); err != nil {
		t.Errorf("MaxParts: %v", err)
	}
	wantWriteWrong(t, flat(api.MaxParts-1, leaf("")), api.ErrLimit)
	wantWriteWrong(t, flat(api.MaxParts-2, wrong), api.ErrArg)
	wantWriteWrong(t, flat(api.MaxParts-1, wrong), api.ErrLimit)
	wantWriteWrong(t, tree(mixed, wrong, flat(api.MaxParts, wrong)), api.ErrArg)
	wantWriteWrong(t, tree(mixed, flat(19, leaf("")), flat(15, leaf("")), wrong), api.ErrArg)
	wantWriteWrong(t, tree(mixed, flat(19, leaf("")), flat(16, leaf("")), wrong), api.ErrLimit)
	wantWriteWrong(t, tree("a b", slices.Repeat([]api.Part{wrong}, 100)...), api.ErrArg)
	// Deep.
	deep := func(n int, p api.Part) api.Part {
		for range n {
			p = tree(mixed, p)
		}
		return p
	}
	if _, err := part.Write(deep(api.MaxDepth-1, leaf(""))); err != nil {
		t.Errorf("MaxDepth: %v", err)
	}
	if _, err := part.Write(deep(api.MaxDepth-1, tree(mixed))); err != nil {
		t.Errorf("MaxDepth, parts, but none: %v", err)
	}
	wantWriteWrong(t, deep(api.MaxDepth-1, wrong), api.ErrArg)
	wantWriteWrong(t, deep(api.MaxDepth, leaf("")), api.ErrLimit)
	wantWriteWrong(t, deep(api.MaxDepth, wrong), api.ErrLimit)
	wantWriteWrong(t, deep(1<<16, leaf("")), api.ErrLimit)
}

func TestWriteBytes(t *testing.T) {
	// So many bytes are written beside the body.
	beside := len(lines("Content-Transfer-Encoding: 7bit", ""))
	full := strings.Repeat("x", api.MaxBytes-beside)
	wantWrite(t, leaf(full), lines("Content-Transfer-Encoding: 7bit", "")+full)
	wantWriteWrong(t, leaf(full+"x"), api.ErrLimit)
	wantWriteWrong(t, leaf("", "A", full), api.ErrLimit)
	// What is written counts, not what it is written from.
	wantWriteWrong(t, leaf(strings.Repeat("\xff", api.MaxBytes*3/4)), api.ErrLimit)
	empty, err := part.Write(tree(mixed, leaf("")))
	if err != nil {
		t.Fatal(err)
	}
	body := strings.Repeat("x", api.MaxBytes-len(empty))
	s, err := part.Write(tree(mixed, leaf(body)))
	if len(s) != api.MaxBytes || err != nil {
		t.Errorf("got %d bytes, %v", len(s), err)
	}
	wantWriteWrong(t, tree(mixed, leaf(body+"x")), api.ErrLimit)
	s, err = part.Write(tree(mixed, leaf("--b0"+body[4:])))
	if len(s) != api.MaxBytes || !strings.HasSuffix(s, "\r\n--b1--\r\n") || err != nil {
		t.Errorf("got %d bytes, .. %q, %v", len(s), s[max(0, len(s)-30):], err)
	}
	// All of it is told last.
	wantWriteWrong(t, tree(mixed, leaf(full+"x"), leaf("", "", "")), api.ErrArg)
	wantWriteWrong(t, tree(mixed, tree(mixed, leaf(full+"x")), leaf("", "", "")), api.ErrArg)
}

func TestWriteOfMuch(t *testing.T) {
	var taken strings.Builder
	for i := range 300_000 {
		fmt.Fprint(&taken, "--b", i)
	}
	wantWriteWrong(t, leaf(taken.String()), api.ErrLimit)
	wantWriteWrong(t, tree(mixed, leaf(taken.String())), api.ErrLimit)
	wantWriteWrong(t, tree(mixed, tree(mixed, leaf(taken.String()), leaf("\xff"+taken.String())), leaf("")), api.ErrLimit)
	wantWriteWrong(t, tree(mixed, slices.Repeat([]api.Part{leaf("")}, 200_000)...), api.ErrLimit)
	wantWriteWrong(t, api.Part{Head: slices.Repeat(fields("A", "b"), 200_000)}, api.ErrLimit)
	wantWriteWrong(t, api.Part{Head: append(slices.Repeat(fields("A", "b"), 200_000), api.Field{})}, api.ErrArg)
}

var asItIs = regexp.MustCompile(`^(?:[ -~\t]|\r\n)*\z`)

// slowWrite is what 5.3's words make of a part, with all that stands in it, in one way after another.
func slowWrite(p api.Part) string {
	const name = "Content-Transfer-Encoding"
	var l []api.Field
	for _, f := range p.Head {
		if !strings.EqualFold(f.Name, name) {
			l = append(l, f)
		}
	}
	behind := ""
	if p.Many {
		l, behind = slowParts(p, l)
	} else {
		q, b := text.Quote(p.Body), text.Pack(p.Body)
		code := ""
		switch {
		case asItIs.MatchString(p.Body):
			code, behind = "7bit", p.Body
		case len(q) > len(b):
			code, behind = "base64", b
		default:
			code, behind = "quoted-printable", q
		}
		l = append(l, api.Field{Name: name, Value: code})
	}
	s, _ := head.Write(l)
	return s + behind
}

func slowParts(p api.Part, l []api.Field) ([]api.Field, string) {
	var written []string
	for _, q := range p.Parts {
		written = append(written, slowWrite(q))
	}
	n := 0
	for strings.Contains(strings.Join(written, "\r\n"), fmt.Sprint("--b", n)) {
		n++
	}
	for i, f := range l {
		if strings.EqualFold(f.Name, "Content-Type") {
			l[i].Value = withEdge(f.Value, fmt.Sprint("b", n))
			break
		}
	}
	behind := ""
	for _, s := range written {
		behind += fmt.Sprintf("--b%d\r\n%s\r\n", n, s)
	}
	return l, behind + fmt.Sprintf("--b%d--\r\n", n)
}

// withEdge is what a part with parts says of what it is, with another boundary.
func withEdge(s, edge string) string {
	main, params, _ := kind.Read(s)
	for i, q := range params {
		if q.Name == "boundary" {
			params[i].Value = edge
			break
		}
	}
	s, _ = kind.Write(main, params)
	return s
}

// drawn is a right part, so deep.
func drawn(r *rand.Rand, deep int) api.Part {
	var p api.Part
	field := func(name string, of ...string) {
		p.Head = append(p.Head, api.Field{Name: name, Value: of[r.IntN(len(of))]})
	}
	for range r.IntN(3) {
		field("Subject", "a", "a  b", strings.Repeat("some words ", r.IntN(20))+"x", "--b0", "", "\xe9", "a:b", "a \tb")
	}
	for range r.IntN(2) {
		field("content-Transfer-Encoding", "7bit", "base64", "x", "")
	}
	if deep == 0 || r.IntN(3) == 0 {
		p.Body = drawnBody(r)
		for range r.IntN(3) {
			field("Content-Type", "text/html", "A/b; boundary=x", "multipart", "text/plain; charset=\"x y\"")
		}
		return p
	}
	p.Many = true
	field("Content-type", mixed, `Multipart/x; a="b c"; boundary="x y"; boundary=z`, "multipart/related;boundary=b0", "multipart/related; type=text; boundary=\""+strings.Repeat("long ", r.IntN(13))+"x\"")
	for range r.IntN(4) {
		p.Parts = append(p.Parts, drawn(r, deep-1))
	}
	return p
}

func drawnBody(r *rand.Rand) string {
	b := ""
	pieces := []string{"a", " ", "\t", "\r\n", "\r", "\n", "--b0", "--b1", "--b2\r\n", "\r\n--b0", "\r\n--b0--\r\n", "--", "=", "\xff", "\x00\x01", "words and words", "\r\n\r\n"}
	most := []int{4, len(pieces)}[r.IntN(2)]
	for range r.IntN(20) {
		b += pieces[r.IntN(most)]
	}
	return b
}

func howMany(p api.Part) int {
	n := 1
	for _, q := range p.Parts {
		n += howMany(q)
	}
	return n
}

func TestWriteAsSlowly(t *testing.T) {
	r := rand.New(rand.NewPCG(5, 3))
	for range 5000 {
		p := drawn(r, 3)
		if want := slowWrite(p); howMany(p) > api.MaxParts || len(want) > api.MaxBytes {
			wantWriteWrong(t, p, api.ErrLimit)
		} else {
			wantWrite(t, p, want)
		}
	}
}

// All parts come back.

// bare is a part, with all that stands in it, without what Write says by itself: how bodies are written, and boundaries.
func bare(p api.Part) api.Part {
	out := api.Part{Body: p.Body, Many: p.Many}
	seen := false
	for _, f := range p.Head {
		if strings.EqualFold(f.Name, "Content-Transfer-Encoding") {
			continue
		}
		if p.Many && !seen && strings.EqualFold(f.Name, "Content-Type") {
			f.Value, seen = withEdge(f.Value, "x"), true
		}
		out.Head = append(out.Head, f)
	}
	for _, q := range p.Parts {
		out.Parts = append(out.Parts, bare(q))
	}
	return out
}

// wantBack asks that a part that is written comes back, and is written so again; false: it is not written.
func wantBack(t *testing.T, p api.Part) bool {
	t.Helper()
	s, err := part.Write(p)
	if err != nil {
		return false
	}
	q, err := part.Read(s)
	if err != nil || !plain.Same(bare(q), bare(p)) {
		t.Errorf("%q: written as %q, read as %q, %v", fmt.Sprint(p), s, fmt.Sprint(q), err)
	}
	wantWrite(t, q, s)
	return true
}

func TestPartsComeBack(t *testing.T) {
	r := rand.New(rand.NewPCG(5, 1))
	n := 0
	for range 5000 {
		if wantBack(t, drawn(r, 3)) {
			n++
		}
	}
	if n < 4000 {
		t.Errorf("only %d came back", n)
	}
	for _, b := range texts([]string{"--b0", "--", "b1", "\r\n", "\r", "\n", " ", "\xff"}, 4) {
		wantBack(t, tree(mixed, leaf(b), tree(mixed, leaf(b)), leaf("a")))
	}
}

// What was read is written, unless it is too long then, and comes back.
func TestTextsComeBack(t *testing.T) {
	pieces := []string{"--x", "--", "\r\n", "A: b", "Content-Type: " + mixed, "Content-Transfer-Encoding: base64", "TQ==", "\xff"}
	n := 0
	for _, s := range texts(pieces, 5) {
		for _, s := range []string{s, inMany("--x\r\n" + s + "\r\n--x--")} {
			p, err := part.Read(s)
			if err != nil {
				continue
			}
			n++
			if !wantBack(t, p) {
				t.Errorf("%q: not written", s)
			}
		}
	}
	if n < 5000 {
		t.Errorf("only %d were read", n)
	}
}

// The library's reader finds the same bodies in what is written.
func TestLibraryReadsWhatIsWritten(t *testing.T) {
	r := rand.New(rand.NewPCG(5, 2))
	for range 2000 {
		p := drawn(r, 3)
		s, err := part.Write(p)
		if err != nil {
			continue
		}
		if got, want := libraryBodies(t, s), writtenBodies(p); !slices.Equal(got, want) {
			t.Errorf("%q: got %q, want %q", s, got, want)
		}
	}
}

// libraryBodies is the bodies in a text, as they are written, by the library's reader.
func libraryBodies(t *testing.T, s string) []string {
	t.Helper()
	l, rest, err := head.Read(s)
	if err != nil {
		t.Fatal(err)
	}
	return bodiesIn(t, l, rest)
}

func bodiesIn(t *testing.T, l []api.Field, rest string) []string {
	t.Helper()
	v, _ := head.Get(l, "Content-Type")
	main, params, _ := kind.Read(v)
	if !strings.HasPrefix(main, "multipart/") {
		return []string{rest}
	}
	edge, _ := kind.Get(params, "boundary")
	var out []string
	// An empty line ahead of each one's head keeps the library's reader from asking more of heads than the document does.
	m := multipart.NewReader(strings.NewReader(strings.ReplaceAll(rest, "--"+edge+"\r\n", "--"+edge+"\r\n\r\n")), edge)
	for {
		p, err := m.NextRawPart()
		if errors.Is(err, io.EOF) {
			return out
		}
		if err != nil {
			t.Fatalf("%q: %v", rest, err)
		}
		b, err := io.ReadAll(p)
		if err != nil {
			t.Fatalf("%q: %v", rest, err)
		}
		out = append(out, libraryBodies(t, string(b))...)
	}
}

// writtenBodies is the bodies in a part, as they are written.
func writtenBodies(p api.Part) []string {
	if !p.Many {
		_, body, _ := strings.Cut(slowWrite(leaf(p.Body)), "\r\n\r\n")
		return []string{body}
	}
	var out []string
	for _, q := range p.Parts {
		out = append(out, writtenBodies(q)...)
	}
	return out
}

// P4

func TestWriteLeavesItsArgument(t *testing.T) {
	outer := fields("Content-Transfer-Encoding", "x", "Content-Type", `Multipart/x; boundary="x y"`, "A", "b", "behind", "its length")
	inner := fields("A", "b", "Content-Transfer-Encoding", "x", "C", "d", "behind", "its length")
	parts := []api.Part{{Head: inner[:3], Body: "\xff"}, leaf("behind its length")}
	before := fmt.Sprint(outer, inner, parts)
	if _, err := part.Write(api.Part{Head: outer[:3], Many: true, Parts: parts[:1]}); err != nil {
		t.Fatal(err)
	}
	if after := fmt.Sprint(outer, inner, parts); after != before {
		t.Errorf("got %s, was %s", after, before)
	}
}

func TestReadTellsFreshMemory(t *testing.T) {
	s := lines("A: b", "Content-Type: "+mixed, "", "--x", "A: b", "C: d", "", "e", "--x", "A: b", "", "f", "--x--")
	first, err := part.Read(s)
	if err != nil {
		t.Fatal(err)
	}
	want := fmt.Sprint(first)
	spoil(first)
	second, err := part.Read(s)
	if got := fmt.Sprint(second); got != want || err != nil {
		t.Errorf("got %s, %v, want %s", got, err, want)
	}
	// What is put behind one list is not seen in another.
	_ = append(second.Head, api.Field{Name: "X"})
	_ = append(second.Parts, leaf("X"))
	_ = append(second.Parts[0].Head, api.Field{Name: "X"})
	if got := fmt.Sprint(second); got != want {
		t.Errorf("got %s, want %s", got, want)
	}
}

// spoil writes into each list of a part.
func spoil(p api.Part) {
	for i := range p.Head {
		p.Head[i] = api.Field{Name: "X", Value: "X"}
	}
	for i := range p.Parts {
		spoil(p.Parts[i])
		p.Parts[i] = api.Part{Body: "X"}
	}
}

func FuzzReadComesBack(f *testing.F) {
	f.Add("A: b\r\n\r\nbody")
	f.Add(inMany("--x\r\n\r\na\r\n--x\r\nA: b\r\n\r\nc\r\n--x--"))
	f.Add(nested(3, "Content-Transfer-Encoding: quoted-printable\r\n\r\n=41"))
	f.Fuzz(func(t *testing.T, s string) {
		p, err := part.Read(s)
		if err != nil {
			wantReadWrong(t, s, api.Tell(err))
			return
		}
		if !wantBack(t, p) {
			wantWriteWrong(t, p, api.ErrLimit)
		}
	})
}

func FuzzPartsComeBack(f *testing.F) {
	f.Add("A", "b", "a/b", mixed, "body", "--b0")
	f.Add("Content-Transfer-Encoding", "7bit", "x", "multipart/x; boundary=\"x y\"; a=b", "\r\n--b0--\r\n", "\xff")
	f.Fuzz(func(t *testing.T, name, value, kind, outer, one, two string) {
		p := tree(outer, leaf(one, name, value), tree(mixed, leaf(two, "Content-Type", kind)), leaf(two+one))
		if !wantBack(t, p) {
			return
		}
		wantWrite(t, p, slowWrite(p))
	})
}
