package desk_test

import (
	"encoding/base64"
	"fmt"
	"math/rand/v2"
	"regexp"
	"slices"
	"strings"
	"testing"

	"bindery/address"
	"bindery/api"
	"bindery/bundle"
	"bindery/desk"
	"bindery/kind"
	"bindery/page"
	"bindery/text"
)

const (
	help = "add at bind dots find help kind lead links open pack parts quote resolve unpack unquote"

	wrongForm = "error 3"
	missing   = "error 7"
	beyond    = "error 2"
)

// opening are lines that open a bundle at http://a/b: a page that leads to itself, to a part, and elsewhere, and two other parts. It begins with the second one.
const opening = `add Content-Type: multipart/related; boundary=x; start="<i>"
add Content-Location: http://a/b
add
add --x
add Content-Type: text/html
add
add <a href="c#d"><img src=e><a href='b'>
add --x
add Content-Location: c
add Content-ID: <i>
add Content-Transfer-Encoding: base64
add
add TSA=
add --x
add
add
add --x--
open
`

// opened is what a session answers behind those lines, which are answered as they must be.
func opened(t *testing.T, s string) string {
	t.Helper()
	ahead := strings.Repeat("add\n", 17) + "3 1\n"
	rest, ok := strings.CutPrefix(desk.Session(opening+s), ahead)
	if !ok {
		t.Fatalf("got %.600q, want %q ahead", desk.Session(opening+s), ahead)
	}
	return rest
}

// told are answers, a line each.
func told(answers ...string) string {
	s := ""
	for _, a := range answers {
		s += a + "\n"
	}
	return s
}

func wantSession(t *testing.T, s string, answers ...string) {
	t.Helper()
	if got, want := desk.Session(s), told(answers...); got != want {
		t.Errorf("%.600q: got %.900q, want %.900q", s, got, want)
	}
}

// wantOpened asks for answers behind the lines that open the bundle.
func wantOpened(t *testing.T, s string, answers ...string) {
	t.Helper()
	if got, want := opened(t, s), told(answers...); got != want {
		t.Errorf("%.600q: got %.900q, want %.900q", s, got, want)
	}
}

// wantBoth asks for the same answer, be there a bundle or not.
func wantBoth(t *testing.T, line, answer string) {
	t.Helper()
	wantSession(t, line, answer)
	wantOpened(t, line, answer)
}

// 8.1

func TestLines(t *testing.T) {
	for _, c := range []struct {
		in   string
		want []string
	}{
		{"", []string{"ok"}},
		{"\n", []string{"ok"}},
		{"\n\n", []string{"ok", "ok"}},
		{"\n\n\n", []string{"ok", "ok", "ok"}},
		{" ", []string{"ok"}},
		{"    \n  ", []string{"ok", "ok"}},
		{"dots a", []string{"is a"}},
		{"dots a\n", []string{"is a"}},
		{"dots a\n\n", []string{"is a", "ok"}},
		{"\ndots a", []string{"ok", "is a"}},
		{"dots a\ndots b", []string{"is a", "is b"}},
		{"dots a\nx\ndots b\n", []string{"is a", wrongForm, "is b"}},
		{"dots a\n \n", []string{"is a", "ok"}},
		{"dots a\n ", []string{"is a", "ok"}},
		// Several blanks, and at both ends.
		{" dots a", []string{"is a"}},
		{"dots a ", []string{"is a"}},
		{"   dots    a   \n", []string{"is a"}},
		{"resolve  http://a/  b ", []string{"is http://a/b"}},
		{"  help  ", []string{help}},
	} {
		wantSession(t, c.in, c.want...)
	}
}

// Nothing is a blank but the byte 32, and nothing ends a line but a line feed.
func TestBlanks(t *testing.T) {
	for _, s := range []string{"\t", "\r", "\v", "\f", "\x00", "\x1f", "\x7f", "\x85", "\xa0", "\xc2\x85", "\xc2\xa0", "\u2003", "\u2028", "\u3000", "\xff", "\xe2\x80", "\ufffd"} {
		for _, line := range []string{s, "help" + s, s + "help", " " + s + " ", "dots" + s + "a"} {
			wantSession(t, line, wrongForm)
			wantSession(t, "ok\n"+line+"\n", wrongForm, wrongForm)
		}
		wantSession(t, "dots a"+s+"b", "is a"+s+"b")
		wantSession(t, "dots "+s, "is "+s)
		wantSession(t, "links  "+s+"  <a href=a>", fmt.Sprintf(`links %d 1 "a"`, len(s)+9))
	}
}

func TestMaxText(t *testing.T) {
	for _, c := range []struct {
		in   string
		want []string
	}{
		{strings.Repeat("x", api.MaxText), []string{wrongForm}},
		{strings.Repeat("x", api.MaxText-1) + "\n", []string{wrongForm}},
		{strings.Repeat(" ", api.MaxText), []string{"ok"}},
		{strings.Repeat("\n", api.MaxText), slices.Repeat([]string{"ok"}, api.MaxText)},
		{"dots " + strings.Repeat("a", api.MaxText-5), []string{"is " + strings.Repeat("a", api.MaxText-5)}},
		{strings.Repeat("x", api.MaxText+1), []string{"error 4"}},
		{strings.Repeat("x", api.MaxText) + "\n", []string{"error 4"}},
		{strings.Repeat(" ", api.MaxText+1), []string{"error 4"}},
		{strings.Repeat("\n", api.MaxText+1), []string{"error 4"}},
		{strings.Repeat("help\n", api.MaxText), []string{"error 4"}},
		{strings.Repeat("\u00e9", api.MaxText/2) + "x", []string{"error 4"}},
		{strings.Repeat("\u00e9", api.MaxText/2), []string{wrongForm}},
	} {
		wantSession(t, c.in, c.want...)
	}
}

func TestNoSuchWord(t *testing.T) {
	for _, line := range []string{"x", "help,", "Help", "HELP", "packs x", "pac x", "ok", "is a", "leads", "add,", "error 3", "\"help\"", "%68elp", "..", "pack.. x", "-", "0", "Leads 0", "link <a>"} {
		wantBoth(t, line, wrongForm)
	}
	for _, word := range strings.Fields(help) {
		wantBoth(t, word+"x 0", wrongForm)
		wantBoth(t, "x"+word, wrongForm)
		wantBoth(t, strings.ToUpper(word[:1])+word[1:]+" 0", wrongForm)
	}
}

// Just so many words stand behind the first one as are told, be there a bundle or not.
func TestHowManyWords(t *testing.T) {
	for word, many := range map[string]int{"resolve": 2, "dots": 1, "open": 0, "parts": 0, "at": 1, "find": 1, "lead": 1, "bind": 0, "help": 0} {
		for n := range 6 {
			line := word + strings.Repeat(" 0", n)
			for _, answer := range []string{desk.Session(line), opened(t, line)} {
				switch wrong := answer == wrongForm+"\n"; {
				case wrong && n == many:
					t.Errorf("%q: got %q", line, answer)
				case !wrong && n != many:
					t.Errorf("%q: got %q, want %q", line, answer, wrongForm)
				}
			}
		}
	}
	// Of the others there may be none, or many.
	for word, none := range map[string]string{"pack": `""`, "quote": `""`, "unpack": `""`, "unquote": `""`, "kind": wrongForm, "links": "links ", "add": "add"} {
		wantBoth(t, word, none)
		wantBoth(t, "  "+word+"  ", none)
		for _, answer := range []string{desk.Session(word + " TWFu TWFu  TWFu"), opened(t, word+" TWFu TWFu  TWFu")} {
			if strings.HasPrefix(answer, "error") && word != "kind" {
				t.Errorf("%q: got %q", word, answer)
			}
		}
	}
}

// What asks for a bundle where there is none: behind how many words there are, ahead of all else.
func TestNoBundle(t *testing.T) {
	for _, c := range []struct{ line, want string }{
		{"parts", missing},
		{"bind", missing},
		{"at 0", missing},
		{"at 9", missing},
		{"at -1", missing},
		{"at x", missing},
		{"at 00", missing},
		{"at 99999999999999999999", missing},
		{"lead 0", missing},
		{"lead -1", missing},
		{"lead x", missing},
		{"lead +1", missing},
		{"find http://a/b", missing},
		{"find \xe9", missing},
		{"find \t", missing},
		{"parts x", wrongForm},
		{"bind x", wrongForm},
		{"at", wrongForm},
		{"at 0 0", wrongForm},
		{"lead", wrongForm},
		{"lead x y", wrongForm},
		{"find", wrongForm},
		{"find a b", wrongForm},
	} {
		wantSession(t, c.line, c.want)
		// What was added is not opened by itself, and what cannot be opened is none.
		wantSession(t, strings.TrimSuffix(opening, "open\n")+c.line, append(slices.Repeat([]string{"add"}, 17), c.want)...)
		wantSession(t, "add x\nopen\n"+c.line, "add", wrongForm, c.want)
		wantSession(t, "open\n"+c.line, "error 6", c.want)
	}
}

func TestPackAndQuote(t *testing.T) {
	for _, c := range []struct{ line, want string }{
		{"pack Man", `"TWFu%0d%0a"`},
		{"pack M", `"TQ==%0d%0a"`},
		{"pack", `""`},
		{"pack a  b", `"YSBi%0d%0a"`},
		{"pack  a b ", `"YSBi%0d%0a"`},
		{"pack " + strings.Repeat("a", 58), `"` + strings.Repeat("YWFh", 19) + `%0d%0aYQ==%0d%0a"`},
		{"pack \xff\xfe", `"//4=%0d%0a"`},
		{"quote a=b  c", `"a=3Db%20c"`},
		{"quote a=b ", `"a=3Db"`},
		{"quote", `""`},
		{"quote %\"", `"%25""`},
		{"quote \r\t\xff", `"=0D%09=FF"`},
		{"quote " + strings.Repeat("a", 77), `"` + strings.Repeat("a", 75) + `=%0d%0aaa"`},
		{"unpack TWFu", `"Man"`},
		{"unpack TW Fu", `"Man"`},
		{"unpack  T  W  F  u ", `"Man"`},
		{"unpack TQ==", `"M"`},
		{"unpack", `""`},
		{"unpack T Q = =\r", `"M"`},
		{"unpack TQ=", wrongForm},
		{"unpack TR==", wrongForm},
		{"unpack T", wrongForm},
		{"unpack \xff", wrongForm},
		{"unquote a=3Db=", `"a=b"`},
		{"unquote a=3Db=20", `"a=b%20"`},
		{"unquote a   b", `"a%20b"`},
		{"unquote", `""`},
		{"unquote =0a=0D=25", `"%0a%0d%25"`},
		{"unquote a=b", wrongForm},
		{"unquote =4", wrongForm},
		{"unquote \x00", wrongForm},
		{"unquote a\rb", wrongForm},
	} {
		wantBoth(t, c.line, c.want)
	}
}

// Each byte is shown as it must be.
func TestShown(t *testing.T) {
	all, want := "", ""
	for c := range 256 {
		all += string([]byte{byte(c)})
		if c >= '!' && c <= '~' && c != '%' {
			want += string(rune(c))
		} else {
			want += fmt.Sprintf("%%%02x", c)
		}
	}
	wantBoth(t, "unpack "+base64.StdEncoding.EncodeToString([]byte(all)), `"`+want+`"`)
	wantBoth(t, "unquote =7e=7f=80=21=20=1f=22=5c=25", `"~%7f%80!%20%1f"\%25"`)
}

func TestKind(t *testing.T) {
	for _, c := range []struct{ line, want string }{
		{"kind text/html", "text/html"},
		{"kind Text/HTML;A=b", "text/html; a=b"},
		{`kind Text/HTML; a="b c"; D=e`, `text/html; a="b c"; d=e`},
		{`kind  text/html  ;  a  =  "b   c"`, `text/html; a="b c"`},
		{`kind a;b=""`, `a; b=""`},
		{`kind a;b="\"\c%"`, `a; b="\"c%"`},
		{"kind a\t;b=\tc", "a; b=c"},
		{"kind", wrongForm},
		{"kind a;", wrongForm},
		{"kind a b", wrongForm},
		{"kind a/b/c", wrongForm},
		{"kind \xe9", wrongForm},
		{"kind a;b=\"\t\"", wrongForm},
	} {
		wantBoth(t, c.line, c.want)
	}
}

func TestResolveAndDots(t *testing.T) {
	for _, c := range []struct{ line, want string }{
		{"resolve http://a/b/c/d?q#f ../g", "is http://a/b/g"},
		{"resolve http://a/b ?", "is http://a/b?"},
		{"resolve http://a/b #", "is http://a/b#"},
		{"resolve HTTP://A/b c", "is HTTP://A/c"},
		{"resolve a b", "is b"},
		{"resolve a .", "is "},
		{"resolve . ..", "is "},
		{"resolve http://a/b %20\"", "is http://a/%20\""},
		{"resolve \xe9 a", wrongForm},
		{"resolve a \xe9", wrongForm},
		{"resolve a \x7f", wrongForm},
		{"resolve \t \t", wrongForm},
		{"dots /a/./b/../c", "is /a/c"},
		{"dots a/../b", "is b"},
		{"dots .", "is "},
		{"dots ..", "is "},
		{"dots a%/\xe9", "is a%/\xe9"},
		{"dots //", "is /"},
	} {
		wantBoth(t, c.line, c.want)
	}
}

func TestLinks(t *testing.T) {
	for _, c := range []struct{ line, want string }{
		{`links <a href="x&amp;y"><img src=z>`, `links 9 7 "x&y", 27 1 "z"`},
		{`links <a href=x><img src='y&amp;z'>`, `links 8 1 "x", 20 7 "y&z"`},
		{`links   <a   href=x>  `, `links 8 1 "x"`},
		{`links <a href="">`, `links 9 0 ""`},
		{`links <a href=", ">`, `links 9 2 ",%20"`},
		{`links <a href='a%"'>`, `links 9 3 "a%25""`},
		{"links <a href='\xe9\t'>", `links 9 2 "%e9%09"`},
		{`links a b`, `links `},
		{`links`, `links `},
		{`links <a href=x`, `links `},
		{`links <!-- <a href=x> --> <a src=x> <a src=y> <a src=z>`, `links 27 1 "x", 37 1 "y", 47 1 "z"`},
	} {
		wantBoth(t, c.line, c.want)
	}
}

func TestHelp(t *testing.T) {
	wantBoth(t, "help", help)
	wantBoth(t, "help help", wrongForm)
}

func TestAddAndOpen(t *testing.T) {
	const related = "add Content-Type: multipart/related; boundary=x\n"
	for _, c := range []struct {
		in   string
		want []string
	}{
		{"add", []string{"add"}},
		{"add a b", []string{"add"}},
		// How many parts, the Root.
		{related + "add\nadd --x\nadd\nadd --x--\nopen\nparts", []string{"add", "add", "add", "add", "add", "1 0", `parts 0 ""`}},
		{related + "add\nadd --x\nadd\nadd a\nadd --x\nadd A: b\nadd\nadd  c   d \nadd\nadd --x--\nopen\nparts", []string{"add", "add", "add", "add", "add", "add", "add", "add", "add", "add", "add", "2 0", `parts 0 "a", 1 "c%20d%0d%0a"`}},
		{opening, append(slices.Repeat([]string{"add"}, 17), "3 1")},
		// Other lines between change nothing.
		{related + "help\nadd\nx\nadd --x\n\nadd\nat 0\nadd --x--\nopen", []string{"add", help, "add", wrongForm, "add", "ok", "add", missing, "add", "1 0"}},
		// Bytes come through, but blanks as one; a line's own carriage return, too.
		{related + "add\nadd --x\nadd\nadd \t\xff  %\"\r\nadd --x--\nopen\nparts", []string{"add", "add", "add", "add", "add", "add", "1 0", `parts 0 "%09%ff%20%25"%0d"`}},
		// Errors.
		{"open", []string{"error 6"}},
		{"add\nopen", []string{"add", "error 6"}},
		{"add x\nopen", []string{"add", wrongForm}},
		{"add Content-Type: text/html\nopen", []string{"add", "error 6"}},
		{related + "open", []string{"add", wrongForm}},
		{related + "add\nadd --x--\nopen", []string{"add", "add", "add", "error 8"}},
		{related + "add\nadd --x\nadd Content-Type: multipart/mixed; boundary=y\nadd\nadd --y--\nadd --x--\nopen", []string{"add", "add", "add", "add", "add", "add", "add", "error 13"}},
		{related + "add\nadd --x\nadd Content-Transfer-Encoding: y\nadd\nadd --x--\nopen", []string{"add", "add", "add", "add", "add", "add", "error 5"}},
		{related + "add\nadd --x\nadd A: \x01\nadd\nadd --x--\nopen", []string{"add", "add", "add", "add", "add", "add", "error 1"}},
		// One blank at the head of a line is none: it cannot go on with the one ahead of it.
		{"add A: b\nadd  c\nopen", []string{"add", "add", wrongForm}},
	} {
		wantSession(t, c.in, c.want...)
	}
}

// What was added is not added any more, in any case; a bundle that there is stays, where there is no other one.
func TestOpenAgain(t *testing.T) {
	const other = "add Content-Type: multipart/related; boundary=x\nadd\nadd --x\nadd\nadd z\nadd --x--\n"
	adds := slices.Repeat([]string{"add"}, 6)
	wantOpened(t, "open\nat 1", "error 6", "is http://a/c")
	wantOpened(t, "open\nopen\nparts", "error 6", "error 6", `parts 1 "<a%20href="c#d"><img%20src=e><a%20href='b'>", 3 "M%20", 0 ""`)
	wantOpened(t, "add x\nopen\nat 1\nopen", "add", wrongForm, "is http://a/c", "error 6")
	wantOpened(t, "add x\nopen\n"+other+"open\nparts", append(append([]string{"add", wrongForm}, adds...), "1 0", `parts 0 "z"`)...)
	wantOpened(t, other+"parts\nopen\nparts\nat 1", append(slices.Clone(adds), `parts 1 "<a%20href="c#d"><img%20src=e><a%20href='b'>", 3 "M%20", 0 ""`, "1 0", `parts 0 "z"`, beyond)...)
	wantOpened(t, other+"open x\nopen", append(slices.Clone(adds), wrongForm, "1 0")...)
	wantSession(t, "add x\nopen\n"+other+"open\nopen\nparts", append(append([]string{"add", wrongForm}, adds...), "1 0", "error 6", `parts 0 "z"`)...)
}

// A bundle of more bytes than may be: what is added has two where a line has one.
func TestOpenTooMuch(t *testing.T) {
	const ahead, behind = "add Content-Type: multipart/related; boundary=x\nadd\nadd --x\nadd\n", "add --x--\nopen\n"
	room := api.MaxText - len(ahead+behind+"add \n")
	body := strings.Repeat("a", room)
	wantSession(t, ahead+"add "+body+"\n"+behind, append(slices.Repeat([]string{"add"}, 6), "1 0")...)
	wantSession(t, ahead+"add "+body+"a\n"+behind, "error 4")
}

func TestParts(t *testing.T) {
	wantOpened(t, "parts\n parts ", slices.Repeat([]string{`parts 1 "<a%20href="c#d"><img%20src=e><a%20href='b'>", 3 "M%20", 0 ""`}, 2)...)
}

// noNumbers are words that are no numbers just as told.
var noNumbers = []string{"x", "00", "01", "-01", "-00", "-0", "+0", "+1", "-", "--1", "1-", "0x0", "0x1", "1e0", "1.0", "0.", ".0", "1_0", "0_0", "0b0", "0o0", "1,", "\t1", "1\t", "1\r", "\xd9\xa1", "\u0661", "\uff19", "9223372036854775808", "-9223372036854775809", "18446744073709551616", "18446744073709551617", "-18446744073709551615", "340282366920938463463374607431768211456", strings.Repeat("9", 300), strings.Repeat("0", 300), "nan", "%31", `"1"`, "\xff", "\x00"}

func TestNumbers(t *testing.T) {
	for _, word := range []string{"at ", "lead "} {
		for _, s := range noNumbers {
			wantOpened(t, word+s, wrongForm)
		}
		for _, s := range []string{"3", "4", "9", "10", "-1", "-3", "-10", "2147483648", "4294967296", "4294967297", "-4294967295", "9223372036854775807", "-9223372036854775808", "1000000000000000000"} {
			wantOpened(t, word+s, beyond)
		}
	}
}

func TestAt(t *testing.T) {
	wantOpened(t, "at 0\nat 1\n at  2 \nat 3", "is http://a/b", "is http://a/c", "is http://a/b", beyond)
	wantSession(t, "add Content-Type: multipart/related; boundary=x\nadd\nadd --x\nadd\nadd --x--\nopen\nat 0\nlead 0", "add", "add", "add", "add", "add", "1 0", "is ", "leads ")
}

func TestFind(t *testing.T) {
	for _, c := range []struct{ line, want string }{
		{"find http://a/c", "1"},
		{"find HTTP://A/c#x", "1"},
		{"find http://a/b", "0"},
		{"find cid:i", "1"},
		{"find CID:i#", "1"},
		{"find cid:I", "-1"},
		{"find c", "-1"},
		{"find #", "-1"},
		{"find http://a/c?", "-1"},
		{"find \xe9", wrongForm},
		{"find http://a/c\t", wrongForm},
		{"find \x7f", wrongForm},
		{"find 0", "-1"},
	} {
		wantOpened(t, c.line, c.want)
	}
}

func TestLead(t *testing.T) {
	wantOpened(t, "lead 0\nlead 1\nlead 2\nlead 3\nlead", `leads "http://a/c#d" 1, "http://a/e" -1, "http://a/b" 0`, "leads ", "leads ", beyond, wrongForm)
	const odd = "add Content-Type: multipart/related; boundary=x\nadd\nadd --x\nadd Content-Type: text/html\nadd\nadd <a href='a %\xe9'><a href='%\", '>\nadd --x--\nopen\nlead 0"
	wantSession(t, odd, "add", "add", "add", "add", "add", "add", "add", "1 0", `leads "a%20%25%e9" -1, "%25",%20" -1`)
}

func TestBind(t *testing.T) {
	const want = `Content-Type: multipart/related; boundary=b0; start="<part1@b0>"
Content-Location: http://a/b

--b0
Content-Type: text/html
Content-ID: <part0@b0>
Content-Transfer-Encoding: 7bit

<a href="cid:part1@b0#d"><img src="e"><a href='cid:part0@b0'>
--b0
Content-Location: c
Content-ID: <part1@b0>
Content-Transfer-Encoding: 7bit

M ` + `
--b0
Content-ID: <part2@b0>
Content-Transfer-Encoding: 7bit


--b0--
`
	shown := `"` + strings.NewReplacer("\n", "%0d%0a", " ", "%20").Replace(want) + `"`
	wantOpened(t, "bind\n  bind\nbind x", shown, shown, wrongForm)
	// Bind's errors: each link is longer when it is bound.
	much := "add Content-Type: multipart/related; boundary=x\nadd Content-Location: a\nadd\nadd --x\nadd Content-Type: text/html\nadd\nadd " + strings.Repeat("<a href=>", 2000) + "\nadd --x--\nopen\nbind\nat 0"
	wantSession(t, much, append(slices.Repeat([]string{"add"}, 8), "1 0", "error 4", "is a")...)
}

// What is told by a line is nothing that another one could ask for; a session has nothing of another one.
func TestSessionsApart(t *testing.T) {
	wantOpened(t, "")
	for range 2 {
		wantSession(t, "parts", missing)
		wantSession(t, "open", "error 6")
	}
	if a, b := opened(t, "bind\nparts"), opened(t, "bind\nparts"); a != b {
		t.Errorf("got %q, then %q", a, b)
	}
}

// The document's examples.
func TestExamples(t *testing.T) {
	wantSession(t, "pack Man\npack M\nunquote a=3Db=20", `"TWFu%0d%0a"`, `"TQ==%0d%0a"`, `"a=b%20"`)
	wantSession(t, `kind Text/HTML; a="b c"; D=e`, `text/html; a="b c"; d=e`)
	wantSession(t, "resolve http://a/b/c/d?q#f ../g\ndots /a/./b/../c", "is http://a/b/g", "is /a/c")
	wantSession(t, `links <a href="x&amp;y"><img src=z>`, `links 9 7 "x&y", 27 1 "z"`)
	if got := opened(t, "bind"); !strings.Contains(got, `<a%20href="cid:part1@b0#d">`) {
		t.Errorf("got %q", got)
	}
}

// As the document's words tell it, one after another.

var (
	slowBlanks = regexp.MustCompile(` +`)
	slowDigits = regexp.MustCompile(`^(0|-?[1-9][0-9]*)\z`)
)

type slowDesk struct {
	added string
	b     *bundle.Bundle
}

func slowShown(s string) string {
	out := ""
	for _, c := range []byte(s) {
		if c < 33 || c > 126 || c == '%' {
			out += fmt.Sprintf("%%%x%x", c/16, c%16)
		} else {
			out += string([]byte{c})
		}
	}
	return `"` + out + `"`
}

func slowError(err error) string { return fmt.Sprint("error ", int(api.Tell(err))) }

// slowNumber is a number, and whether the word is one.
func slowNumber(s string) (n int, ok bool) {
	if !slowDigits.MatchString(s) {
		return 0, false
	}
	_, err := fmt.Sscan(s, &n)
	return n, err == nil
}

// slowLine is a line without the blanks that count for nothing.
func slowLine(line string) string {
	return strings.Trim(slowBlanks.ReplaceAllString(line, " "), " ")
}

func (d *slowDesk) answer(line string) string {
	line = slowLine(line)
	if line == "" {
		return "ok"
	}
	word, rest, _ := strings.Cut(line, " ")
	switch word {
	case "pack":
		return slowShown(text.Pack(rest))
	case "quote":
		return slowShown(text.Quote(rest))
	case "unpack", "unquote":
		of := map[string]func(string) (string, error){"unpack": text.Unpack, "unquote": text.Unquote}[word]
		s, err := of(rest)
		if err != nil {
			return slowError(err)
		}
		return slowShown(s)
	case "kind":
		main, l, err := kind.Read(rest)
		if err != nil {
			return slowError(err)
		}
		s, err := kind.Write(main, l)
		if err != nil {
			return slowError(err)
		}
		return s
	case "links":
		s := "links "
		for i, l := range page.Links(rest) {
			s += []string{"", ", "}[min(i, 1)] + fmt.Sprintf("%d %d %s", l.At, l.Long, slowShown(l.Value))
		}
		return s
	case "add":
		d.added += rest + "\r\n"
		return "add"
	}
	var words []string
	if rest != "" {
		words = strings.Split(rest, " ")
	}
	return d.counted(word, words)
}

// counted answers a line that has just so many words.
func (d *slowDesk) counted(word string, words []string) string {
	many, ok := map[string]int{"resolve": 2, "dots": 1, "open": 0, "parts": 0, "at": 1, "find": 1, "lead": 1, "bind": 0, "help": 0}[word]
	if !ok || len(words) != many {
		return "error 3"
	}
	switch word {
	case "resolve":
		a, err := address.Read(words[0])
		if err != nil {
			return slowError(err)
		}
		b, err := address.Read(words[1])
		if err != nil {
			return slowError(err)
		}
		return "is " + address.Write(address.Resolve(a, b))
	case "dots":
		return "is " + address.Dots(words[0])
	case "help":
		return help
	case "open":
		b, err := bundle.Open(d.added)
		d.added = ""
		if err != nil {
			return slowError(err)
		}
		d.b = b
		return fmt.Sprint(len(b.Parts()), " ", b.Root())
	}
	if d.b == nil {
		return "error 7"
	}
	return d.asked(word, strings.Join(words, ""))
}

// asked answers a line that asks for the bundle.
func (d *slowDesk) asked(word, what string) string {
	switch word {
	case "parts":
		var l []string
		for _, p := range d.b.Parts() {
			l = append(l, fmt.Sprintf("%d %s", len(p.Head), slowShown(p.Body)))
		}
		return "parts " + strings.Join(l, ", ")
	case "bind":
		s, err := d.b.Bind()
		if err != nil {
			return slowError(err)
		}
		return slowShown(s)
	case "find":
		a, err := address.Read(what)
		if err != nil {
			return slowError(err)
		}
		return fmt.Sprint(d.b.Find(a))
	}
	n, ok := slowNumber(what)
	if !ok {
		return "error 3"
	}
	if word == "at" {
		a, err := d.b.At(n)
		if err != nil {
			return slowError(err)
		}
		return "is " + address.Write(a)
	}
	leads, err := d.b.Leads(n)
	if err != nil {
		return slowError(err)
	}
	var l []string
	for _, k := range leads {
		l = append(l, fmt.Sprintf("%s %d", slowShown(k.Address), k.Part))
	}
	return "leads " + strings.Join(l, ", ")
}

func slowSession(s string) string {
	if len(s) > 20000 {
		return "error 4\n"
	}
	if len(s) > 0 && s[len(s)-1] == '\n' {
		s = s[:len(s)-1]
	}
	out := ""
	var d slowDesk
	for _, line := range strings.Split(s, "\n") {
		out += d.answer(line) + "\n"
	}
	return out
}

func wantAsSlowly(t *testing.T, s string) {
	t.Helper()
	got, want := desk.Session(s), slowSession(s)
	if got != want {
		t.Errorf("%.900q: got %.900q, want %.900q", s, got, want)
	}
	if again := desk.Session(s); again != got {
		t.Errorf("%.900q: got %.900q, then %.900q", s, got, again)
	}
}

// drawn is a session that asks for much, mostly rightly.
func drawn(r *rand.Rand) string {
	of := func(l ...string) string { return l[r.IntN(len(l))] }
	word := func() string {
		return of("0", "1", "2", "-1", "01", "9223372036854775808", "a", "../c", "http://a/c", "cid:i0", "cid:i1#f", "#", "TWFu", "TQ==", "a=3Db", "=4", "text/html;", "a=b", "<a href=x>", "<img src='y&amp;z'", "\xe9", "\t", "%\"", "\r")
	}
	line := func() string {
		s := of("", "", " ") + of(append(strings.Fields(help), "", "x", "at", "lead", "find", "parts", "bind")...)
		for range []int{0, 0, 1, 1, 1, 2, 2, 3}[r.IntN(8)] {
			s += of(" ", " ", "  ") + word()
		}
		return s + of("", "", " ")
	}
	var l []string
	for range r.IntN(3) {
		if r.IntN(3) > 0 {
			l = append(l, "add Content-Type: multipart/related; boundary=x"+of("", "; start=\"<i1>\"", "; start=\"<>\""), "add "+of("A: b", "Content-Location: http://a/b"), "add")
			for range r.IntN(4) {
				l = append(l, "add --x", "add "+of("Content-Type: text/html", "Content-Location: c", "Content-ID: <i0>", "Content-ID: <i1>"), "add "+of("A: b", "Content-Location: c", "Content-Type: Text/HTML;a=b", "Content-ID: <i1>", ":"), "add", "add "+of("<a href=c>", "<a href='c#d'><img src=cid:i1>", "\xff\t%", "@b0", ""))
				if r.IntN(6) == 0 {
					l = append(l, line())
				}
			}
			l = append(l, "add --x--", "open")
		}
		for range r.IntN(9) {
			l = append(l, line())
		}
	}
	return strings.Join(l, "\n") + of("", "", "\n", "\n\n", " ")
}

func TestAsSlowly(t *testing.T) {
	r := rand.New(rand.NewPCG(8, 1))
	for range 6000 {
		wantAsSlowly(t, drawn(r))
	}
}

// Each line has an answer of one line.
func TestEachLineIsAnswered(t *testing.T) {
	r := rand.New(rand.NewPCG(8, 2))
	for range 2000 {
		s := drawn(r)
		want := strings.Count(strings.TrimSuffix(s, "\n"), "\n") + 1
		got := desk.Session(s)
		if strings.Count(got, "\n") != want || !strings.HasSuffix(got, "\n") {
			t.Errorf("%.600q: got %.600q, want %d lines", s, got, want)
		}
	}
}

func FuzzAsSlowly(f *testing.F) {
	r := rand.New(rand.NewPCG(8, 3))
	for range 60 {
		f.Add(drawn(r))
	}
	f.Add(opening + "bind\nparts\nlead 0\n")
	f.Fuzz(func(t *testing.T, s string) { wantAsSlowly(t, s) })
}
