package bundle_test

import (
	"fmt"
	"html"
	"math"
	"math/rand/v2"
	"regexp"
	"slices"
	"strings"
	"testing"

	"bindery/address"
	"bindery/api"
	"bindery/bundle"
	"bindery/head"
	"bindery/kind"
	"bindery/page"
	"bindery/part"
	"bindery/plain"
	"bindery/text"
)

const (
	isRelated = "Content-Type: multipart/related; boundary=x"
	isPage    = "Content-Type: text/html"
)

// lines are such lines, each with CR and LF behind it.
func lines(l ...string) string {
	s := ""
	for _, line := range l {
		s += line + "\r\n"
	}
	return s
}

// fields is a head: names and values in turn.
func fields(l ...string) []api.Field {
	var out []api.Field
	for i := 0; i < len(l); i += 2 {
		out = append(out, api.Field{Name: l[i], Value: l[i+1]})
	}
	return out
}

// one is the text of a part: the lines of its head, and its body.
func one(body string, l ...string) string { return lines(append(l, "")...) + body }

// at is the text of a part of such a Content-Location.
func at(s string) string { return one("", "Content-Location: "+s) }

// named is the text of a part of such a Content-ID.
func named(s string) string { return one("", "Content-ID: "+s) }

// many is the text of parts with the boundary x, behind a head of such lines.
func many(l []string, parts ...string) string {
	s := lines(append(slices.Clone(l), "")...)
	for _, p := range parts {
		s += "--x\r\n" + p + "\r\n"
	}
	return s + "--x--\r\n"
}

// related is the text of a bundle of such parts.
func related(parts ...string) string { return many([]string{isRelated}, parts...) }

// located is the text of a bundle at an address.
func located(s string, parts ...string) string {
	return many([]string{isRelated, "Content-Location: " + s}, parts...)
}

func open(t *testing.T, s string) *bundle.Bundle {
	t.Helper()
	b, err := bundle.Open(s)
	if b == nil || err != nil {
		t.Fatalf("%.600q: got %v", s, err)
	}
	return b
}

func bind(t *testing.T, b *bundle.Bundle) string {
	t.Helper()
	s, err := b.Bind()
	if err != nil {
		t.Fatalf("%.600q: %v", fmt.Sprint(b.Parts()), err)
	}
	return s
}

func read(t *testing.T, s string) api.Address {
	t.Helper()
	a, err := address.Read(s)
	if err != nil {
		t.Fatalf("%q: %v", s, err)
	}
	return a
}

// wantOpenWrong asks for an error without a place, and no bundle.
func wantOpenWrong(t *testing.T, s string, want api.Errno) {
	t.Helper()
	b, err := bundle.Open(s)
	if e, place := plain.Place(err); e != want || place != -1 || b != nil {
		t.Errorf("%.300q: got %v, error %d at %d, want error %d alone", s, b != nil, e, place, want)
	}
}

func wantParts(t *testing.T, b *bundle.Bundle, want ...api.Part) {
	t.Helper()
	if got := b.Parts(); !slices.EqualFunc(got, want, plain.Same) {
		t.Errorf("got %.600q, want %.600q", fmt.Sprint(got), fmt.Sprint(want))
	}
}

// wantAt asks that a part is where a text says, just so.
func wantAt(t *testing.T, b *bundle.Bundle, i int, want string) {
	t.Helper()
	a, err := b.At(i)
	if a != read(t, want) || err != nil {
		t.Errorf("part %d: got %+v, %v, want %q", i, a, err, want)
	}
}

func wantFind(t *testing.T, b *bundle.Bundle, a string, want int) {
	t.Helper()
	if got := b.Find(read(t, a)); got != want {
		t.Errorf("%q: got %d, want %d", a, got, want)
	}
}

func wantLeads(t *testing.T, b *bundle.Bundle, i int, want ...bundle.Lead) {
	t.Helper()
	got, err := b.Leads(i)
	if !slices.Equal(got, want) || err != nil {
		t.Errorf("part %d: got %.600q, %v, want %.600q", i, fmt.Sprint(got), err, fmt.Sprint(want))
	}
}

func wantBind(t *testing.T, s, want string) {
	t.Helper()
	if got, err := open(t, s).Bind(); got != want || err != nil {
		t.Errorf("%.600q: got\n%.900q, %v, want\n%.900q", s, got, err, want)
	}
}

// noParts are numbers of which there is no part, of so many.
func noParts(n int) []int { return []int{-1, n, n + 1, math.MinInt, math.MaxInt, -n} }

// 7.1

func TestOpen(t *testing.T) {
	b := open(t, related(one("a")))
	wantParts(t, b, api.Part{Body: "a"})
	b = open(t, related(one("TQ==", "Content-Transfer-Encoding: base64", "A:  b "), one("", "C: d"), one("<a href=x>\r\n", isPage)))
	wantParts(t, b,
		api.Part{Head: fields("Content-Transfer-Encoding", "base64", "A", "b"), Body: "M"},
		api.Part{Head: fields("C", "d")},
		api.Part{Head: fields("Content-Type", "text/html"), Body: "<a href=x>\r\n"})
	// What it is, in any letters, with anything behind.
	for _, l := range [][]string{
		{"content-TYPE: Multipart/RELATED; boundary=x"},
		{"Content-Type:multipart/related;a=\"b c\";BOUNDARY=x;boundary=y"},
		{"A: b", "Content-Type: multipart/related ; boundary = x", "Content-Type: text/html"},
		{isRelated, "Content-Transfer-Encoding: y"},
	} {
		wantParts(t, open(t, many(l, one("a"), one("b"))), api.Part{Body: "a"}, api.Part{Body: "b"})
	}
	// Parts that may be: as many as may stand in one, without heads, the same ones.
	var l []string
	var want []api.Part
	for range api.MaxParts - 1 {
		l = append(l, one("a"))
		want = append(want, api.Part{Body: "a"})
	}
	wantParts(t, open(t, related(l...)), want...)
	wantOpenWrong(t, related(append(l, one("a"))...), api.ErrLimit)
}

func TestOpenWrong(t *testing.T) {
	mixed := []string{"Content-Type: multipart/mixed; boundary=x"}
	inner := strings.ReplaceAll(related(one("a")), "x", "y")
	for _, c := range []struct {
		in   string
		want api.Errno
	}{
		// Read's.
		{"x", api.ErrForm},
		{"A: \x00\r\n\r\n", api.ErrArg},
		{lines("Content-Type: multipart/related", ""), api.ErrForm},
		{lines("Content-Type: multipart/related; boundary=\"\"", ""), api.ErrForm},
		{lines("Content-Type: multipart/related; boundary=x;", "", "--x--"), api.ErrForm},
		{lines("Content-Type: ", ""), api.ErrForm},
		{lines(isRelated, "", "--x", "", "a"), api.ErrForm},
		{related(one("a"), one("", "A: \x00")), api.ErrArg},
		{related(one("a"), one("", "Content-Transfer-Encoding: y")), api.ErrName},
		{related(one("T", "Content-Transfer-Encoding: base64")), api.ErrForm},
		{related(strings.Repeat("a", api.MaxBytes)), api.ErrLimit},
		// No multipart/related.
		{"", api.ErrState},
		{"\r\nmultipart/related", api.ErrState},
		{one("a", isPage), api.ErrState},
		{one("a", "Content-Type: multipart"), api.ErrState},
		{one("a", "Content-Type: related"), api.ErrState},
		{one("a", "X-Content-Type: multipart/related; boundary=x"), api.ErrState},
		{many(mixed, one("a")), api.ErrState},
		{many([]string{"Content-Type: multipart/relate; boundary=x"}, one("a")), api.ErrState},
		{many([]string{"Content-Type: multipart/related2; boundary=x"}, one("a")), api.ErrState},
		{many(append(mixed, isRelated), one("a")), api.ErrState},
		{many([]string{isPage, isRelated}, one("a")), api.ErrState},
		// No parts; parts that have parts.
		{related(), api.ErrNone},
		{lines(isRelated, "", "a", "", "--x--", "--x", "", "a", "--x--"), api.ErrNone},
		{related(inner), api.ErrFalse},
		{related(one("a"), one("b"), inner), api.ErrFalse},
		{related(inner, one("a")), api.ErrFalse},
		{related(lines("Content-Type: multipart/mixed; boundary=y", "", "--y--")), api.ErrFalse},
		// The one told first is answered.
		{many(mixed, one("", "A: \x00")), api.ErrArg},
		{many(mixed), api.ErrState},
		{many(mixed, inner), api.ErrState},
		{related(inner, one("", "Content-Transfer-Encoding: y")), api.ErrName},
		{related(lines("Content-Type: multipart/mixed; boundary=y", "", "--y")), api.ErrForm},
	} {
		wantOpenWrong(t, c.in, c.want)
	}
}

func TestOpenBytes(t *testing.T) {
	empty := related(one(""))
	body := strings.Repeat("a", api.MaxBytes-len(empty))
	wantParts(t, open(t, related(one(body))), api.Part{Body: body})
	wantOpenWrong(t, related(one(body+"a")), api.ErrLimit)
}

func TestAt(t *testing.T) {
	const nothing = "-"
	for _, c := range []struct{ whole, part, want string }{
		{nothing, nothing, ""},
		{"http://a/b", nothing, "http://a/b"},
		{nothing, "http://a/c", "http://a/c"},
		{"http://a/b", "c", "http://a/c"},
		{"http://a/b/", "c", "http://a/b/c"},
		{"http://a/b/d", "../c", "http://a/c"},
		{"http://a/b", "http://d/c", "http://d/c"},
		{"http://a/b", "//d/c", "http://d/c"},
		{"http://a/b", "/c/./d", "http://a/c/d"},
		{"http://a/b?q", "", "http://a/b?q"},
		{"http://a/b?q", "?r", "http://a/b?r"},
		{"http://a/b?q", nothing, "http://a/b?q"},
		// Whole: without a fragment, scheme and authority in small letters.
		{"HTTP://A/B?Q#F", nothing, "http://a/B?Q"},
		{"HTTP://A/B?Q#F", "#g", "http://a/B?Q"},
		{nothing, "HTTP://A/B?Q#F", "http://a/B?Q"},
		{"HTTP://A/B", "C#", "http://a/C"},
		{"http://a/b", "CID:A", "cid:A"},
		// The whole's dots are what they stand for, too: there is nothing that it stands at.
		{"http://a/b/../c", nothing, "http://a/c"},
		{"b/../c", nothing, "c"},
		{"../b/c", "d", "b/d"},
		{"b/c", "/d", "/d"},
		{"//A", "d", "//a/d"},
		{nothing, "c", "c"},
		{nothing, "../c", "c"},
		// What cannot be read says nothing.
		{"x y", nothing, ""},
		{"x y", "c", "c"},
		{"http://a/\xe9", "c", "c"},
		{"http://a/b", "x y", "http://a/b"},
		{"http://a/b", "\xe9", "http://a/b"},
		{"x y", "x y", ""},
		{"", "", ""},
	} {
		whole, p := []string{isRelated}, one("")
		if c.whole != nothing {
			whole = append(whole, "content-LOCATION: "+c.whole, "Content-Location: http://no/")
		}
		if c.part != nothing {
			p = one("", "CONTENT-location: "+c.part, "Content-Location: http://no/")
		}
		b := open(t, many(whole, one("", "Content-Location: http://first/"), p, one("", "A: http://no/")))
		wantAt(t, b, 0, "http://first/")
		wantAt(t, b, 1, c.want)
		none := open(t, many(whole, one("")))
		if first, _ := none.At(0); address.Write(first) != address.Write(mustAt(t, b, 2)) {
			t.Errorf("%q: a part that says nothing is at %+v, and at %+v", c.whole, first, mustAt(t, b, 2))
		}
	}
}

func mustAt(t *testing.T, b *bundle.Bundle, i int) api.Address {
	t.Helper()
	a, err := b.At(i)
	if err != nil {
		t.Fatalf("part %d: %v", i, err)
	}
	return a
}

// What is told of where a part is need not be what its text is read as: there is no scheme here.
func TestAtWithoutScheme(t *testing.T) {
	b := open(t, related(at("./a:b")))
	if a, err := b.At(0); a != (api.Address{Path: "a:b"}) || err != nil {
		t.Errorf("got %+v, %v", a, err)
	}
	if got := b.Find(api.Address{Path: "a:b"}); got != 0 {
		t.Errorf("got %d", got)
	}
	wantFind(t, b, "a:b", -1)
}

func TestAtWrong(t *testing.T) {
	b := open(t, located("http://a/b", one("a"), one("b")))
	for _, i := range noParts(2) {
		a, err := b.At(i)
		if e, place := plain.Place(err); e != api.ErrRange || place != -1 || a != (api.Address{}) {
			t.Errorf("part %d: got %+v, error %d at %d", i, a, e, place)
		}
	}
}

func TestRoot(t *testing.T) {
	ids := []string{named("<a>"), named("<b>"), named("<c d>"), named("e"), named("<b>"), named(`<"\>`), named("<<f>>"), one(""), named("<>"), named("<G>"), named("< h >")}
	for _, c := range []struct {
		params string
		want   int
	}{
		{"", 0},
		{"; start=\"<a>\"", 0},
		{"; start=\"<b>\"", 1},
		{"; START=\"<b>\"", 1},
		{"; a=c; start=\"<b>\"; d=e", 1},
		{"; start=\"<c d>\"", 2},
		{`; start="<\"\\>"`, 5},
		{"; start=\"<<f>>\"", 6},
		{"; start=\"<G>\"", 9},
		{"; start=\"< h >\"", 10},
		// The first one counts.
		{"; start=\"<b>\"; start=\"<c d>\"", 1},
		{"; start=\"<none>\"; start=\"<b>\"", 0},
		{"; start=\"\"; start=\"<b>\"", 0},
		// No such part.
		{"; start=\"<none>\"", 0},
		{"; start=b", 0},
		{"; start=\"b\"", 0},
		{"; start=\"<B>\"", 0},
		{"; start=\"<g>\"", 0},
		{"; start=\"<h>\"", 0},
		{"; start=\"<b\"", 0},
		{"; start=\"b>\"", 0},
		{"; start=\" <b>\"", 0},
		{"; start=\"<<b>>\"", 0},
		{"; start=e", 0},
		{"; start=\"<e>\"", 0},
		{"; restart=\"<b>\"", 0},
		// The first part without an ID has one that is empty: it is asked for by what stands round it, not by nothing.
		{"; start=\"<>\"", 3},
		{"; start=\"<>\"; start=\"<b>\"", 3},
		{"; start=\"\"", 0},
		{"; start=\"< >\"", 0},
		{"; start=\"><\"", 0},
		{"; start=\"<\"", 0},
	} {
		b := open(t, many([]string{isRelated + c.params, "Content-Type: multipart/related; start=\"<c d>\""}, ids...))
		if got := b.Root(); got != c.want {
			t.Errorf("%q: got %d, want %d", c.params, got, c.want)
		}
	}
}

// A part has the ID that is empty in each way of having none; what is bound begins with it still.
func TestRootWithoutID(t *testing.T) {
	for _, without := range []string{one("y"), one("y", "A: b"), one("y", "Content-ID: <>"), one("y", "Content-ID: a"), one("y", "Content-ID: "), one("y", "Content-ID: <a", "Content-ID: <a>")} {
		for _, c := range []struct {
			start string
			want  int
		}{{`"<>"`, 1}, {`"<a>"`, 0}, {`"<b>"`, 2}, {`""`, 0}, {`"<c>"`, 0}} {
			b := open(t, many([]string{isRelated + "; start=" + c.start}, named("<a>"), without, named("<b>"), one("")))
			if got, again := b.Root(), open(t, bind(t, b)).Root(); got != c.want || again != c.want {
				t.Errorf("%q, %q: got %d, and %d bound, want %d", c.start, without, got, again, c.want)
			}
		}
	}
	b := open(t, many([]string{isRelated + "; start=\"<>\""}, named("<a>"), named("<b>")))
	if got := b.Root(); got != 0 {
		t.Errorf("where each part has an ID: got %d", got)
	}
}

func TestIDs(t *testing.T) {
	for _, c := range []struct {
		says string
		want string // empty: none
	}{
		{"<a>", "a"},
		{"  <a>\t", "a"},
		{"<A@b.c>", "A@b.c"},
		{"<<a>>", "<a>"},
		{"<a><b>", "a><b"},
		{"<<>", "<"},
		{"<>>", ">"},
		{"<a:b/c>", "a:b/c"},
		{"<>", ""},
		{"", ""},
		{"<", ""},
		{">", ""},
		{"><", ""},
		{"a", ""},
		{"<a", ""},
		{"a>", ""},
		{"<a> b", ""},
		{"(x) <a>", ""},
	} {
		for _, p := range []string{named(c.says), one("", "content-id: "+c.says), one("", "Content-Id:"+c.says, "Content-ID: <z>")} {
			b := open(t, related(p))
			if c.want != "" {
				wantNamed(t, b, c.want, 0)
			}
			for _, other := range []string{"", c.says, strings.Trim(c.says, "<>"), "z"} {
				if other != c.want || c.want == "" {
					wantNamed(t, b, other, -1)
				}
			}
		}
	}
}

func wantNamed(t *testing.T, b *bundle.Bundle, id string, want int) {
	t.Helper()
	if got := b.Find(api.Address{Scheme: "cid", Path: id}); got != want {
		t.Errorf("%q: %q: got %d, want %d", fmt.Sprint(b.Parts()), id, got, want)
	}
}

// 7.2

func TestFind(t *testing.T) {
	b := open(t, located("http://a/b",
		one(""), // 0: where the whole is
		one("", "Content-ID: <i>", "Content-Location: c"),      // 1
		one("", "Content-ID: <i>", "Content-Location: c"),      // 2: as the one ahead of it
		one("", "Content-ID: <j>", "Content-Location: cid:k"),  // 3: at what might be a name
		one("", "Content-ID: <k>", "Content-Location: cid:l"),  // 4
		one("", "Content-ID: <m/n>", "Content-Location: d?q"),  // 5
		one("", "Content-Location: cid://h/i"),                 // 6
		one("", "Content-Location: cid:o?q"),                   // 7
		one("", "Content-ID: <o>", "Content-Location: X-Y:p"),  // 8
		one("", "Content-ID: <http://a/e>", "Content-ID: <r>"), // 9
		one("", "Content-Location: cid:"),                      // 10
		one("", "Content-Location: http://a/"),                 // 11
		one("", "Content-Location: http://s"),                  // 12
		one("", "Content-Location: d?"),                        // 13
	))
	for _, c := range []struct {
		a    string
		want int
	}{
		{"http://a/b", 0},
		{"http://a/c", 1},
		{"cid:i", 1},
		{"cid:j", 3},
		{"http://a/d?q", 5},
		{"x-y:p", 8},
		// Whole of it.
		{"HTTP://A/c#f", 1},
		{"http://a/c#", 1},
		{"CID:i#f", 1},
		{"Cid:j", 3},
		// But the path, and the query, just so.
		{"http://a/C", -1},
		{"http://a/d?Q", -1},
		{"cid:I", -1},
		{"http://a/d", -1},
		{"http://a/d?", 13},
		{"http://a/c?", -1},
		{"http://a/./c", -1},
		{"http://a/", 11},
		{"http://a", -1},
		{"http://s", 12},
		{"http://s/", -1},
		{"https://a/c", -1},
		{"http:/a/c", -1},
		{"//a/c", -1},
		{"c", -1},
		{"/c", -1},
		// A name is asked ahead of where a part is, of all of them.
		{"cid:k", 4},
		{"cid:l", 4},
		{"cid:m/n", 5},
		// Of other schemes, and with more, it is no name.
		{"i", -1},
		{"mid:i", -1},
		{"cidd:i", -1},
		{"cid://i", -1},
		{"cid://h/i", 6},
		{"cid:///i", -1},
		{"cid:/i", -1},
		{"cid:i?", -1},
		{"cid:i?q", -1},
		{"cid:o", 8},
		{"cid:o?q", 7},
		{"cid:", 10},
		{"cid:http://a/e", 9},
		{"cid:r", -1},
		{"cid:<i>", -1},
		{"http://a/e", -1},
		{"", -1},
		{"#f", -1},
	} {
		wantFind(t, b, c.a, c.want)
	}
}

func TestFindOfNoAddress(t *testing.T) {
	// Where nothing says where it is, parts are at the zero Address, and nobody finds them there.
	b := open(t, related(one(""), named("<i>"), at(""), at("#f"), at("x y")))
	wantFind(t, b, "", -1)
	wantFind(t, b, "#f", -1)
	wantFind(t, b, "cid:", -1)
	wantFind(t, b, "cid:i", 1)
	wantFind(t, b, "?", -1)
	// Addresses that no text is are held against others as they are, and harm nobody.
	for _, a := range []api.Address{
		{Auth: "a"},
		{Query: "q"},
		{Scheme: "cid", Path: "i", Auth: "a", HasAuth: true},
		{Scheme: "cid", Path: "i", HasAuth: true},
		{Scheme: "cid", Path: "i", HasQuery: true},
		{Scheme: "cid"},
		{Scheme: "\x00", Path: "\xff"},
		{HasAuth: true},
		{HasQuery: true},
	} {
		if got := b.Find(a); got != -1 {
			t.Errorf("%+v: got %d", a, got)
		}
	}
	if got := b.Find(api.Address{Frag: "f", HasFrag: true}); got != -1 {
		t.Errorf("a fragment alone: got %d", got)
	}
	if got := b.Find(api.Address{Scheme: "cid", Path: "i", Frag: "f"}); got != 1 {
		t.Errorf("a fragment that there is not: got %d", got)
	}
	// A name may be one that no address that is read has.
	b = open(t, related(named("<a b>"), named("<\xe9#?>")))
	if got := b.Find(api.Address{Scheme: "cid", Path: "a b"}); got != 0 {
		t.Errorf("got %d", got)
	}
	if got := b.Find(api.Address{Scheme: "cid", Path: "\xe9#?"}); got != 1 {
		t.Errorf("got %d", got)
	}
}

func TestLeads(t *testing.T) {
	b := open(t, located("http://a/b",
		one(`<a href="c#d"><img src=e?f><a href='cid:i'><a href="x y"><a href=""><a href="#g"><a href=&amp;&lt;>`, isPage),
		one(`<a href="b"><body background=../c><a href=HTTP://A/c><a href="//A/c">`, "content-type: TEXT/Html; charset=x", "Content-Location: h/c"),
		one("<a href=c>", "Content-ID: <i>", "Content-Location: c"),
		one("text", isPage),
		one("", isPage),
	))
	wantLeads(t, b, 0,
		bundle.Lead{Address: "http://a/c#d", Part: 2},
		bundle.Lead{Address: "http://a/e?f", Part: -1},
		bundle.Lead{Address: "cid:i", Part: 2},
		bundle.Lead{Address: "x y", Part: -1},
		bundle.Lead{Address: "http://a/b", Part: 0},
		bundle.Lead{Address: "http://a/b#g", Part: 0},
		bundle.Lead{Address: "http://a/&<", Part: -1})
	wantLeads(t, b, 1,
		bundle.Lead{Address: "http://a/h/b", Part: -1},
		bundle.Lead{Address: "http://a/c", Part: 2},
		bundle.Lead{Address: "HTTP://A/c", Part: 2},
		bundle.Lead{Address: "http://A/c", Part: 2})
	for i := 2; i < 5; i++ {
		wantLeads(t, b, i)
	}
}

func TestLeadsFromNowhere(t *testing.T) {
	b := open(t, related(
		one(`<a href=""><a href=c><a href=../c#><a href=cid:i><a href="#f"><a href="./a:b"><a href="a:b">`, isPage),
		one("", "Content-Location: c", "Content-ID: <i>"),
		at("./a:b"),
	))
	wantLeads(t, b, 0,
		bundle.Lead{Address: "", Part: -1},
		bundle.Lead{Address: "c", Part: 1},
		bundle.Lead{Address: "c#", Part: 1},
		bundle.Lead{Address: "cid:i", Part: 1},
		bundle.Lead{Address: "#f", Part: -1},
		bundle.Lead{Address: "a:b", Part: 2},
		bundle.Lead{Address: "a:b", Part: -1})
}

// What is at a name is so by its base: links without a scheme lead to names, too.
func TestLeadsFromNames(t *testing.T) {
	b := open(t, located("cid:w",
		one(`<a href="i"><a href="w"><a href=""><a href="a/../i#f"><a href="?q">`, isPage),
		named("<i>"),
	))
	wantLeads(t, b, 0,
		bundle.Lead{Address: "cid:i", Part: 1},
		bundle.Lead{Address: "cid:w", Part: 0},
		bundle.Lead{Address: "cid:w", Part: 0},
		bundle.Lead{Address: "cid:i#f", Part: 1},
		bundle.Lead{Address: "cid:w?q", Part: -1})
}

func TestLeadsOfNoPage(t *testing.T) {
	for _, l := range [][]string{
		{},
		{"Content-Type: text/plain"},
		{"Content-Type: text/html2"},
		{"Content-Type: html"},
		{"Content-Type: xtext/html"},
		{"Content-Type: application/xhtml; a=\"text/html\""},
		{"Content-Type: image/png", isPage},
		{"X-Content-Type: text/html"},
	} {
		b := open(t, related(one("<a href=c>", l...), at("c")))
		wantLeads(t, b, 0)
		if got := open(t, bind(t, b)).Parts()[0].Body; got != "<a href=c>" {
			t.Errorf("%q: bound, its body is %q", l, got)
		}
	}
	for _, l := range [][]string{
		{isPage},
		{"A: b", "CONTENT-TYPE:Text/HTML ;charset=x", "Content-Type: image/png"},
	} {
		b := open(t, related(one("<a href=c>", l...), at("c")))
		wantLeads(t, b, 0, bundle.Lead{Address: "c", Part: 1})
	}
}

func TestLeadsWrong(t *testing.T) {
	b := open(t, related(one("<a href=x>", isPage), one("<a href=x>", isPage)))
	for _, i := range noParts(2) {
		l, err := b.Leads(i)
		if e, place := plain.Place(err); e != api.ErrRange || place != -1 || l != nil {
			t.Errorf("part %d: got %v, error %d at %d", i, l, e, place)
		}
	}
}

// 7.3

func TestBind(t *testing.T) {
	// The document's own.
	wantBind(t,
		located("http://a/b", one(`<a href=c#d>`, isPage), one("x", "Content-Location: c")),
		lines(`Content-Type: multipart/related; boundary=b0; start="<part0@b0>"`, "Content-Location: http://a/b", "",
			"--b0", isPage, "Content-ID: <part0@b0>", "Content-Transfer-Encoding: 7bit", "", `<a href="cid:part1@b0#d">`,
			"--b0", "Content-Location: c", "Content-ID: <part1@b0>", "Content-Transfer-Encoding: 7bit", "", "x",
			"--b0--"))
	// Nothing leads anywhere.
	wantBind(t,
		related(one("")),
		lines(`Content-Type: multipart/related; boundary=b0; start="<part0@b0>"`, "",
			"--b0", "Content-ID: <part0@b0>", "Content-Transfer-Encoding: 7bit", "", "",
			"--b0--"))
	// Heads: names in any letters, as often as they stand there; all else stays where it is.
	wantBind(t,
		lines("A: b", `content-TYPE: Multipart/Related;Start=x; a="c d";start="<j>";boundary=x;START=y;boundary="y z"`, "Content-ID: <w>", "Content-Transfer-Encoding: z", "Content-Type: multipart/related; start=x", "", "ahead",
			"--x", "Content-id: <i>", "B:  c ", " d", "CONTENT-ID: k", "Content-Type: image/png; start=x", "", "<a href=cid:i>",
			"--x", "Content-Transfer-Encoding: base64", "Content-ID: <j>", "C: e", "X-Content-ID: f", "", "/w==",
			"--x--", "behind"),
		lines("A: b", `content-TYPE: multipart/related; a="c d"; boundary=b0; boundary="y z";`, ` start="<part0@b0>"`, "Content-ID: <w>", "Content-Type: multipart/related; start=x", "",
			"--b0", "B: c  d", "Content-Type: image/png; start=x", "Content-ID: <part0@b0>", "Content-Transfer-Encoding: 7bit", "", "<a href=cid:i>",
			"--b0", "C: e", "X-Content-ID: f", "Content-ID: <part1@b0>", "Content-Transfer-Encoding: quoted-printable", "", "=FF",
			"--b0--"))
}

func TestBindRoot(t *testing.T) {
	parts := []string{named("<a>"), named("<b>"), named("<b>")}
	for _, c := range []struct{ params, want string }{
		{"", `; start="<part0@b0>"`},
		{`; start="<a>"`, `; start="<part0@b0>"`},
		{`; start="<b>"`, `; start="<part1@b0>"`},
		{`; start="<b>"; type="text/html"; START=x; c=d`, `; type="text/html"; c=d; start="<part1@b0>"`},
		{`; start=none; start="<b>"`, `; start="<part0@b0>"`},
		{`; Type=A`, `; type=A; start="<part0@b0>"`},
	} {
		s := bind(t, open(t, many([]string{isRelated + c.params}, parts...)))
		l, _, err := head.Read(s)
		got, _ := head.Get(l, "Content-Type")
		if want := " multipart/related; boundary=b0" + c.want; got != want || err != nil {
			t.Errorf("%q: got %q, %v, want %q", c.params, got, err, want)
		}
	}
}

func TestBindLinks(t *testing.T) {
	const behind = ", an image, and \xe9 <!-- <a href=c> --><a name=c><script><a href=c></script>"
	for _, c := range []struct{ in, want string }{
		{"<a href=c>", `<a href="cid:part1@b0">`},
		{`<a href="c">`, `<a href="cid:part1@b0">`},
		{"<a href='c'>", "<a href='cid:part1@b0'>"},
		{"<img src=c/>", `<img src="c/">`},
		{"<BODY Background = http://A/c >", `<BODY Background = "cid:part1@b0" >`},
		{"<a href=b>", `<a href="cid:part0@b0">`},
		{`<a href="">`, `<a href="cid:part0@b0">`},
		{"<a href=>", `<a href="cid:part0@b0">`},
		{"<a href=cid:i>", `<a href="cid:part2@b0">`},
		{"<a href=CID:i>", `<a href="cid:part2@b0">`},
		{"<a href=cid:j>", `<a href="cid:j">`},
		// The fragment of what it says, if it has one; no query.
		{"<a href=c#d>", `<a href="cid:part1@b0#d">`},
		{"<a href=c#>", `<a href="cid:part1@b0#">`},
		{"<a href=#D?e#f>", `<a href="cid:part0@b0#D?e#f">`},
		{"<a href='cid:i#&amp;&#39;'>", "<a href='cid:part2@b0#&amp;&#39;'>"},
		{"<a href=e?q#f>", `<a href="cid:part3@b0#f">`},
		{"<a href=e#f>", `<a href="e#f">`},
		// Where no part is, what it says, as it is, but written by Escape.
		{"<a href=http://a/none#f>", `<a href="http://a/none#f">`},
		{"<a href=../none/./x>", `<a href="../none/./x">`},
		{`<a href="x y">`, `<a href="x y">`},
		{`<a href="c ">`, `<a href="c ">`},
		{"<a href='x&y&lt;\xe9'>", "<a href='x&amp;y&lt;\xe9'>"},
		{`<a href=x"y>`, `<a href="x&quot;y">`},
		// What is no link, or does not end.
		{"c", "c"},
		{"<a href>", "<a href>"},
		{"<a href=c src=c></a href=c>", `<a href="cid:part1@b0" src="cid:part1@b0"></a href=c>`},
		{"<!-- <a href=c>", "<!-- <a href=c>"},
	} {
		// Each by itself, and all that a page may have behind it.
		for _, more := range []string{"", behind} {
			b := open(t, located("http://a/b",
				one(text.Pack(c.in+more), isPage, "Content-Transfer-Encoding: base64"),
				at("c"), named("<i>"), at("e?q"),
				one(c.in+more, isPage, "Content-Location: http://z/y/x")))
			p := open(t, bind(t, b)).Parts()
			if got := p[0].Body; got != c.want+more {
				t.Errorf("%q: got %q, want %q", c.in+more, got, c.want+more)
			}
		}
	}
}

func TestBindMark(t *testing.T) {
	var ten string
	for k := range 10 {
		ten += fmt.Sprint("@b", k)
	}
	code := "Content-Transfer-Encoding: "
	for _, c := range []struct {
		in   string
		want int
	}{
		{related(one("")), 0},
		{related(one("@b @ b0 b0@ @B0 @b-0 b0")), 0},
		// In a body, whatever it is, and of whichever part.
		{related(one("@b0")), 1},
		{related(one("@b1")), 0},
		{related(one("@b0x"), one("x@b1")), 2},
		{related(one("@b0"), one("@b2")), 1},
		{related(one("@b00")), 1},
		{related(one("@b10")), 0},
		{related(one("@b0@b10")), 2},
		{related(one(ten)), 10},
		{related(one(ten + "@b10")), 11},
		{related(one(ten + "@b100")), 11},
		{related(one("<a href=x@b0>", isPage)), 1},
		// As it is, not as it is written.
		{related(one("=40b0", code+"quoted-printable")), 1},
		{related(one("=40b0")), 0},
		{related(one("@b=\r\n0", code+"quoted-printable")), 1},
		{related(one("@b=\r\n0")), 0},
		{related(one("QGIw", code+"base64")), 1},
		{related(one("&#64;b0", isPage)), 0},
		// In what a head of a part says.
		{related(one("", "A: @b0")), 1},
		{related(one("", "A: @b", " 0")), 0},
		{related(one(""), one("", "A: x@b0y", "B: @b1")), 2},
		{related(named("<part0@b0>")), 1},
		{related(one("", "Content-ID: <a>", "Content-ID: <c@b0>")), 1},
		{related(one("", "Content-Location: c@b0")), 1},
		{related(one("", "Content-Type: text/html; a=\"@b0\"")), 1},
		// And of the whole.
		{many([]string{isRelated, "A: @b0"}, one("")), 1},
		{many([]string{"Content-ID: @b0@b1", isRelated}, one("")), 2},
		{many([]string{isRelated + "; start=\"<@b0>\""}, one("")), 1},
		{many([]string{isRelated + "; a=\"@\\b0\""}, one("")), 0},
		{many([]string{isRelated, "A: @b1"}, one("@b0", "A: @b2")), 3},
		// Not in names, nor in what is nothing of it.
		{related(one("", "@b0: a")), 0},
		{many([]string{isRelated, "@b0: a"}, one("")), 0},
		{lines(isRelated, "", "@b0", "--x", "", "--x--", "@b0"), 0},
		// Not across what stands apart.
		{related(one("@b"), one("0")), 0},
		{related(one("0", "A: @b")), 0},
	} {
		mark := fmt.Sprint("@b", c.want)
		b := open(t, bind(t, open(t, c.in)))
		for i, p := range b.Parts() {
			last := p.Head[len(p.Head)-2]
			if want := (api.Field{Name: "Content-ID", Value: fmt.Sprint("<part", i, mark, ">")}); last != want {
				t.Errorf("%q: got %q, want %q", c.in, last, want)
			}
		}
	}
}

// Bound again it says the next ones, and leads where it led.
func TestBindTwice(t *testing.T) {
	s := located("http://a/b", one("<a href=c#d><a href=e>", isPage), one("<a href=b>", "Content-Location: c", isPage))
	b := open(t, s)
	first := bind(t, b)
	if again := bind(t, b); again != first {
		t.Errorf("got %q, then %q", first, again)
	}
	second := bind(t, open(t, first))
	if want := strings.ReplaceAll(first, "@b0", "@b1"); second != want {
		t.Errorf("got %q, want %q", second, want)
	}
}

func TestBindBytes(t *testing.T) {
	of := func(n int) string {
		return related(one("<a href=b><a href=b>"+strings.Repeat("x", n), isPage), at("b"))
	}
	room := api.MaxBytes - len(bind(t, open(t, of(0))))
	s := bind(t, open(t, of(room)))
	if len(s) != api.MaxBytes {
		t.Errorf("got %d bytes", len(s))
	}
	open(t, s)
	for n := room + 1; n <= room+100; n++ {
		s, err := open(t, of(n)).Bind()
		if e, place := plain.Place(err); e != api.ErrLimit || place != -1 || s != "" {
			t.Errorf("%d beyond: got %d bytes, error %d at %d", n-room, len(s), e, place)
		}
	}
	// It is still what it was.
	b := open(t, of(room+1))
	before := fmt.Sprint(b.Parts())
	if _, err := b.Bind(); err == nil {
		t.Error("no error")
	}
	if after := fmt.Sprint(b.Parts()); after != before {
		t.Errorf("got %.300q, was %.300q", after, before)
	}
}

// What a bundle of the most bytes may have most of.
func TestBindOfMuch(t *testing.T) {
	taken := ""
	for k := range 2500 {
		taken += fmt.Sprint("@b", k)
	}
	s := bind(t, open(t, related(one(taken))))
	if !strings.Contains(s, "Content-ID: <part0@b2500>") {
		t.Errorf("got %.300q", s)
	}
	var parts []string
	for range api.MaxParts - 1 {
		parts = append(parts, one(strings.Repeat("<a href=>", 20), isPage))
	}
	b := open(t, located("a", parts...))
	for i := range b.Parts() {
		wantLeads(t, b, i, slices.Repeat([]bundle.Lead{{Address: "a", Part: 0}}, 20)...)
	}
	// Each link is longer when it is bound.
	if _, err := b.Bind(); api.Tell(err) != api.ErrLimit {
		t.Errorf("got %v", err)
	}
}

// As the document's words tell it, one after another.

var angles = regexp.MustCompile(`(?s)^<(.+)>\z`)

func slowGet(l []api.Field, name string) string {
	for _, f := range l {
		if strings.EqualFold(f.Name, name) {
			return f.Value
		}
	}
	return ""
}

func slowIsPage(p api.Part) bool {
	main, _, err := kind.Read(slowGet(p.Head, "content-type"))
	return err == nil && main == "text/html"
}

func slowAt(base api.Address, l []api.Field) api.Address {
	for _, f := range l {
		if strings.EqualFold(f.Name, "content-location") {
			if a, err := address.Read(f.Value); err == nil {
				return address.Whole(address.Resolve(base, a))
			}
			break
		}
	}
	return base
}

func slowID(p api.Part) string {
	if m := angles.FindStringSubmatch(slowGet(p.Head, "content-id")); m != nil {
		return m[1]
	}
	return ""
}

func slowRoot(whole api.Part) int {
	_, params, _ := kind.Read(slowGet(whole.Head, "content-type"))
	for _, q := range params {
		if q.Name != "start" {
			continue
		}
		for i, p := range whole.Parts {
			if q.Value != "" && "<"+slowID(p)+">" == q.Value {
				return i
			}
		}
		break
	}
	return 0
}

func slowFind(whole api.Part, a api.Address) int {
	a = address.Whole(a)
	if id, ok := strings.CutPrefix(address.Write(a), "cid:"); ok && id == a.Path && id != "" {
		for i, p := range whole.Parts {
			if slowID(p) == id {
				return i
			}
		}
	}
	base := slowAt(api.Address{}, whole.Head)
	for i, p := range whole.Parts {
		if b := slowAt(base, p.Head); b == a && b != (api.Address{}) {
			return i
		}
	}
	return -1
}

func slowLeads(whole api.Part, i int) []bundle.Lead {
	p := whole.Parts[i]
	if !slowIsPage(p) {
		return nil
	}
	base := slowAt(slowAt(api.Address{}, whole.Head), p.Head)
	var leads []bundle.Lead
	for _, l := range page.Links(p.Body) {
		a, err := address.Read(l.Value)
		if err != nil {
			leads = append(leads, bundle.Lead{Address: l.Value, Part: -1})
			continue
		}
		to := address.Resolve(base, a)
		leads = append(leads, bundle.Lead{Address: address.Write(to), Part: slowFind(whole, to)})
	}
	return leads
}

func slowMark(whole api.Part) string {
	all := ""
	for _, f := range whole.Head {
		all += f.Value + "\n"
	}
	for _, p := range whole.Parts {
		for _, f := range p.Head {
			all += f.Value + "\n"
		}
		all += p.Body + "\n"
	}
	for k := 0; ; k++ {
		if mark := fmt.Sprint("@b", k); !strings.Contains(all, mark) {
			return mark
		}
	}
}

func slowBody(whole api.Part, i int, mark string) string {
	p := whole.Parts[i]
	leads := slowLeads(whole, i)
	if len(leads) == 0 {
		return p.Body
	}
	out, done := "", 0
	for k, l := range page.Links(p.Body) {
		v := l.Value
		if n := leads[k].Part; n >= 0 {
			_, frag, ok := strings.Cut(v, "#")
			v = fmt.Sprint("cid:part", n, mark)
			if ok {
				v += "#" + frag
			}
		}
		quote := `"`
		if c := p.Body[l.At-1]; c == '"' || c == '\'' {
			quote = ""
		}
		out += p.Body[done:l.At] + quote + page.Escape(v) + quote
		done = l.At + l.Long
	}
	return out + p.Body[done:]
}

func slowBind(whole api.Part) (string, error) {
	mark := slowMark(whole)
	out := api.Part{Many: true}
	for i, f := range whole.Head {
		if slices.IndexFunc(whole.Head, func(f api.Field) bool { return strings.EqualFold(f.Name, "content-type") }) == i {
			main, params, _ := kind.Read(f.Value)
			var rest []api.Param
			for _, p := range params {
				if p.Name != "start" {
					rest = append(rest, p)
				}
			}
			f.Value, _ = kind.Write(main, append(rest, api.Param{Name: "start", Value: fmt.Sprint("<part", slowRoot(whole), mark, ">")}))
		}
		out.Head = append(out.Head, f)
	}
	for i, p := range whole.Parts {
		q := api.Part{Body: slowBody(whole, i, mark)}
		for _, f := range p.Head {
			if !strings.EqualFold(f.Name, "content-id") {
				q.Head = append(q.Head, f)
			}
		}
		q.Head = append(q.Head, api.Field{Name: "Content-ID", Value: fmt.Sprint("<part", i, mark, ">")})
		out.Parts = append(out.Parts, q)
	}
	return part.Write(out)
}

// wantAsSlowly asks of a text what the document's words tell of it.
func wantAsSlowly(t *testing.T, s string, asked ...string) {
	t.Helper()
	b, err := bundle.Open(s)
	whole, wrong := part.Read(s)
	main, _, _ := kind.Read(slowGet(whole.Head, "content-type"))
	if wrong == nil && main != "multipart/related" {
		wrong = api.ErrState
	}
	if wrong == nil && len(whole.Parts) == 0 {
		wrong = api.ErrNone
	}
	for _, p := range whole.Parts {
		if wrong == nil && p.Many {
			wrong = api.ErrFalse
		}
	}
	if wrong != nil {
		wantOpenWrong(t, s, api.Tell(wrong))
		return
	}
	if err != nil {
		t.Errorf("%.600q: %v", s, err)
		return
	}
	wantParts(t, b, whole.Parts...)
	if got, want := b.Root(), slowRoot(whole); got != want {
		t.Errorf("%.600q: Root: got %d, want %d", s, got, want)
	}
	base := slowAt(api.Address{}, whole.Head)
	for i, p := range whole.Parts {
		if got, err := b.At(i); got != slowAt(base, p.Head) || err != nil {
			t.Errorf("%.600q: At %d: got %+v, %v", s, i, got, err)
		}
		wantLeads(t, b, i, slowLeads(whole, i)...)
	}
	for _, a := range asked {
		wantFind(t, b, a, slowFind(whole, read(t, a)))
	}
	got, err := b.Bind()
	want, wrong := slowBind(whole)
	if got != want || api.Tell(err) != api.Tell(wrong) {
		t.Errorf("%.600q: got\n%.900q, %v, want\n%.900q, %v", s, got, err, want, wrong)
	}
}

// places are addresses that parts are at, and that links say.
var places = []string{"", "c", "./c", "../c", "http://a/c", "HTTP://A/c", "http://a/b", "/b?q", "?q", "//a/c", "cid:i0", "CID:i1", "cid:part0@b0", "cid:i0?q", "cid://i0", "part1@b0", "part0@b1", "x/../c", "./a:b", "a:b", "cid:", "c?", "#", "i1", "cid:a/../part0@b2"}

// drawnPage is a page of some links.
func drawnPage(r *rand.Rand) string {
	s := ""
	for range r.IntN(6) {
		v := places[r.IntN(len(places))] + []string{"", "", "#f", "#", "#g&amp;h", " ", "&amp;", "\xe9"}[r.IntN(8)]
		s += []string{`<a href="` + v + `">`, "<img src='" + v + "'>", "<a href=" + v + ">", "<body background = " + v + " x>", "text\r\n", "<!-- <a href=c> -->", "<title>", "</title>", "<a href>", "=", "\xff", "<a href=" + v}[r.IntN(12)]
	}
	return s
}

// drawn is the text of a bundle.
func drawn(r *rand.Rand) string {
	of := func(l ...string) string { return l[r.IntN(len(l))] }
	l := []string{of(isRelated, isRelated, "content-type: Multipart/Related; a=\"b c\"; Boundary=x") + of("", "; start=\"<i1>\"", "; start=\"<i0>\"; type=a; start=x", "; start=\"<>\"", "; start=i1")}
	for range r.IntN(2) {
		l = append(l, "Content-Location: "+of("http://a/b", "http://A/d/#f", "x y", "cid:w", "cid:i0", "b/c", "//a", "", "cid:part0/part1@b0"))
	}
	var parts []string
	for range r.IntN(5) {
		var h []string
		body := drawnPage(r)
		for range r.IntN(2) {
			h = append(h, of("Content-ID", "content-id")+": "+of("<i0>", "<i1>", "<>", "i0", "<part0@b0>", "<part1@b1>", "<part0>", "<i1> "))
		}
		for range r.IntN(2) {
			h = append(h, of("Content-Location", "CONTENT-Location")+": "+of(places...)+of("", "", " ", "#f", "\xe9"))
		}
		for range r.IntN(2) {
			h = append(h, "Content-Type: "+of("text/html", "Text/HTML; a=b", "text/html", "text/plain"))
		}
		for range r.IntN(2) {
			h = append(h, of("Content-ID: <i1>", "Subject: @b0", "Content-Location: c"))
		}
		if r.IntN(3) == 0 {
			h = append(h, "Content-Transfer-Encoding: base64")
			body = text.Pack(body)
		}
		parts = append(parts, one(body, h...))
	}
	return many(l, parts...)
}

func TestAsSlowly(t *testing.T) {
	r := rand.New(rand.NewPCG(7, 1))
	for range 10_000 {
		wantAsSlowly(t, drawn(r), places...)
	}
}

// 7.4

// wantBound asks that a bundle that is bound leads where it led; false: it cannot be bound.
func wantBound(t *testing.T, b *bundle.Bundle) bool {
	t.Helper()
	s, err := b.Bind()
	if err != nil {
		if e, place := plain.Place(err); e != api.ErrLimit || place != -1 || s != "" {
			t.Errorf("%.600q: got %q, error %d at %d", fmt.Sprint(b.Parts()), s, e, place)
		}
		return false
	}
	c, err := bundle.Open(s)
	if err != nil {
		t.Errorf("%.900q: %v", s, err)
		return true
	}
	was, is := b.Parts(), c.Parts()
	if len(was) != len(is) || b.Root() != c.Root() {
		t.Errorf("%.900q: %d parts, Root %d; there were %d, Root %d", s, len(is), c.Root(), len(was), b.Root())
		return true
	}
	for i := range was {
		if mustAt(t, b, i) != mustAt(t, c, i) {
			t.Errorf("%.900q: part %d is at %+v, it was at %+v", s, i, mustAt(t, c, i), mustAt(t, b, i))
		}
		if was[i].Body != is[i].Body && !slowIsPage(was[i]) {
			t.Errorf("%.900q: part %d was %q", s, i, was[i].Body)
		}
		wantSameLeads(t, b, c, i)
	}
	return true
}

// wantSameLeads asks that a part's links lead to the same parts, and to the same places in them; and that those that lead to none say what they said.
func wantSameLeads(t *testing.T, b, c *bundle.Bundle, i int) {
	t.Helper()
	was, err := b.Leads(i)
	is, wrong := c.Leads(i)
	if err != nil || wrong != nil || len(was) != len(is) {
		t.Errorf("part %d: %v, %v; they were %v, %v", i, is, wrong, was, err)
		return
	}
	for k, l := range is {
		_, frag, has := strings.Cut(was[k].Address, "#")
		_, now, still := strings.Cut(l.Address, "#")
		if l.Part != was[k].Part || l.Part < 0 && l != was[k] || frag != now || has != still {
			t.Errorf("part %d: link %d leads to %q, it led to %q", i, k, fmt.Sprint(l), fmt.Sprint(was[k]))
		}
		if l.Part >= 0 && !strings.HasPrefix(l.Address, fmt.Sprint("cid:part", l.Part, "@b")) {
			t.Errorf("part %d: link %d leads to %q", i, k, fmt.Sprint(l))
		}
	}
}

func TestBoundAllLeadsWhereItLed(t *testing.T) {
	r := rand.New(rand.NewPCG(7, 4))
	n := 0
	for range 10_000 {
		b, err := bundle.Open(drawn(r))
		if err != nil {
			continue
		}
		n++
		if !wantBound(t, b) {
			t.Errorf("%.600q: not bound", fmt.Sprint(b.Parts()))
		}
	}
	if n < 7000 {
		t.Errorf("only %d were opened", n)
	}
}

// A link that led to no part does not lead to one by the names that parts are given.
func TestBoundNoneStaysNone(t *testing.T) {
	for k := range 4 {
		for n := range 3 {
			id := fmt.Sprint("part", n, "@b", k)
			for _, s := range []string{
				related(one("<a href=cid:"+id+"><a href=c>", isPage), at("c")),
				related(one("<a href="+id+"><a href=c>", isPage, "Content-Location: cid:w"), at("c")),
				located("cid:"+id, one("<a href='x'><a href='?q'><a href=''>", isPage), at("c")),
				located("cid:x/"+id, one("<a href='"+id+"'><a href='../"+id+"'>", isPage), at("c"), at("part1")),
				related(one("<a href=cid:part0><a href=c>", isPage, "X: "+id), at("c"), named("<"+id+">")),
				related(one(text.Pack("<a href=cid:"+id+"\t>"), isPage, "Content-Transfer-Encoding: base64"), at("c")),
				related(one(strings.ReplaceAll(text.Quote("<a href=cid:"+id+">"), "@", "=40"), isPage, "Content-Transfer-Encoding: quoted-printable"), at("c")),
			} {
				if !wantBound(t, open(t, s)) {
					t.Errorf("%q: not bound", s)
				}
			}
		}
	}
}

// Bodies of what is no page come through, whatever they are; those of pages stay the same around their links.
func TestBoundBodies(t *testing.T) {
	var all []byte
	for i := range 256 {
		all = append(all, byte(i))
	}
	for _, body := range []string{"", "a", string(all), "\r\n", "\r", "\n", "--x\r\n--b0\r\n--b0--\r\n", "\r\n--b0--\r\n", "<a href=c>", strings.Repeat("a", 3000), strings.Repeat("\xff", 3000), " \t", "@b0"} {
		packed := text.Pack(body)
		b := open(t, related(
			one(packed, "Content-Transfer-Encoding: base64"),
			one(packed, "Content-Transfer-Encoding: base64", isPage, "Content-Location: http://a/c"),
			one(text.Pack("<a href=c>"+body), "Content-Transfer-Encoding: base64", isPage, "Content-Location: http://a/b"),
		))
		if !wantBound(t, b) {
			t.Errorf("%q: not bound", body)
			continue
		}
		p := open(t, bind(t, b)).Parts()
		if p[0].Body != body {
			t.Errorf("got %q, want %q", p[0].Body, body)
		}
		if _, behind, _ := strings.Cut(p[2].Body, ">"); behind != body && body != "<a href=c>" {
			t.Errorf("got %q, want %q", behind, body)
		}
	}
}

// Another reader of what links say: what a bound one says is a name, and nothing else.
func TestBoundLinksAsOthersReadThem(t *testing.T) {
	b := open(t, located("http://a/b", one(`<a href="c#x&amp;y&lt;"><a href='c#&quot;&#39;'><a href=c#&gt;>`, isPage), at("c")))
	body := open(t, bind(t, b)).Parts()[0].Body
	var got []string
	for _, m := range regexp.MustCompile(`href=(?:"([^"]*)"|'([^']*)')`).FindAllStringSubmatch(body, -1) {
		got = append(got, html.UnescapeString(m[1]+m[2]))
	}
	want := []string{"cid:part1@b0#x&y<", "cid:part1@b0#\"'", "cid:part1@b0#>"}
	if !slices.Equal(got, want) {
		t.Errorf("%q: got %q, want %q", body, got, want)
	}
}

// P4

func TestAnswersAreFresh(t *testing.T) {
	b := open(t, located("http://a/b", one("<a href=c><a href=d>", isPage, "A: b"), one("", "Content-Location: c", "Content-ID: <i>")))
	parts, bound := fmt.Sprint(b.Parts()), bind(t, b)
	for range 2 {
		l := b.Parts()
		_ = append(l[:1], api.Part{Body: "X"})
		for i := range l {
			_ = append(l[i].Head[:0], api.Field{Name: "X", Value: "X"})
			_ = append(l[i].Head, api.Field{Name: "X", Value: "X"})
			for k := range l[i].Head {
				l[i].Head[k] = api.Field{Name: "X", Value: "X"}
			}
			l[i] = api.Part{Body: "X"}
		}
		leads, err := b.Leads(0)
		if len(leads) != 2 || err != nil {
			t.Fatalf("got %v, %v", leads, err)
		}
		leads[0], leads[1] = bundle.Lead{}, bundle.Lead{}
		wantLeads(t, b, 0, bundle.Lead{Address: "http://a/c", Part: 1}, bundle.Lead{Address: "http://a/d", Part: -1})
		if got := fmt.Sprint(b.Parts()); got != parts {
			t.Errorf("got %q, want %q", got, parts)
		}
		if got := bind(t, b); got != bound {
			t.Errorf("got %q, want %q", got, bound)
		}
	}
}

// Two bundles of one text have nothing of each other.
func TestBundlesApart(t *testing.T) {
	s := related(one("<a href=c>", isPage), at("c"))
	a, b := open(t, s), open(t, s)
	for _, p := range a.Parts() {
		for k := range p.Head {
			p.Head[k] = api.Field{}
		}
	}
	if bind(t, a) != bind(t, b) {
		t.Errorf("got %q, and %q", bind(t, a), bind(t, b))
	}
}

func FuzzAsSlowly(f *testing.F) {
	r := rand.New(rand.NewPCG(7, 5))
	for range 50 {
		f.Add(drawn(r))
	}
	f.Fuzz(func(t *testing.T, s string) { wantAsSlowly(t, s, places...) })
}

func FuzzBoundAllLeadsWhereItLed(f *testing.F) {
	f.Add("http://a/b", "c", "i", "c#d", "cid:i", "cid:part0@b0")
	f.Add("cid:w/", "../part1@b0", "a b", "", "part1@b0", "x y")
	f.Fuzz(func(t *testing.T, whole, place, id, one, two, three string) {
		sheet := ""
		for _, v := range []string{one, two, three} {
			sheet += `<a href="` + page.Escape(v) + `"><a href=` + v + `>`
		}
		s, err := part.Write(api.Part{
			Head: fields("Content-Type", "multipart/related; boundary=x", "Content-Location", whole),
			Many: true,
			Parts: []api.Part{
				{Head: fields("Content-Type", "text/html", "Content-ID", "<"+id+">"), Body: sheet},
				{Head: fields("Content-Location", place), Body: three},
				{Head: fields("Content-Type", "text/html", "Content-Location", place, "Content-ID", id), Body: sheet},
			},
		})
		if err != nil {
			return
		}
		wantBound(t, open(t, s))
		wantAsSlowly(t, s)
	})
}
