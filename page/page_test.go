package page_test

import (
	"fmt"
	"html"
	"regexp"
	"slices"
	"strings"
	"testing"

	"bindery/api"
	"bindery/page"
	"bindery/plain"
)

func bytes(l ...byte) string { return string(l) }

// marked is a page, and its links, of one in which [ and ] stand round the values that are to be told. What a link says is what stands there, where no other is told.
func marked(s string, says ...string) (string, []api.Link) {
	var links []api.Link
	out := ""
	for {
		ahead, rest, ok := strings.Cut(s, "[")
		out += ahead
		if !ok {
			return out, links
		}
		value, behind, _ := strings.Cut(rest, "]")
		l := api.Link{At: len(out), Long: len(value), Value: value}
		if n := len(links); n < len(says) {
			l.Value = says[n]
		}
		links = append(links, l)
		out += value
		s = behind
	}
}

func wantLinks(t *testing.T, s string, want []api.Link) {
	t.Helper()
	if got := page.Links(s); !slices.Equal(got, want) {
		t.Errorf("%.300q: got %.600q, want %.600q", s, fmt.Sprint(got), fmt.Sprint(want))
	}
}

func wantMarked(t *testing.T, s string, says ...string) {
	t.Helper()
	s, links := marked(s, says...)
	wantLinks(t, s, links)
}

func wantEscape(t *testing.T, s, want string) {
	t.Helper()
	if got := page.Escape(s); got != want {
		t.Errorf("%.300q: got %.600q, want %.600q", s, got, want)
	}
}

func wantReplace(t *testing.T, s string, values []string, want string) {
	t.Helper()
	if got, err := page.Replace(s, values); got != want || err != nil {
		t.Errorf("%.300q, %.300q: got %.600q, %v, want %.600q", s, values, got, err, want)
	}
}

// wantReplaceWrong asks for ErrArg without a place, and nothing beside it.
func wantReplaceWrong(t *testing.T, s string, values []string) {
	t.Helper()
	got, err := page.Replace(s, values)
	if e, place := plain.Place(err); e != api.ErrArg || place != -1 || got != "" {
		t.Errorf("%.300q, %.300q: got %.600q, error %d at %d, want ErrArg alone", s, values, got, e, place)
	}
}

func isLetter(c byte) bool { return c >= 'A' && c <= 'Z' || c >= 'a' && c <= 'z' }

func isDigit(c byte) bool { return c >= '0' && c <= '9' }

func isBlank(c byte) bool { return c == ' ' || c == '\t' || c == '\r' || c == '\n' }

// 6.1

func TestLinks(t *testing.T) {
	wantMarked(t, `<a href="[x&amp;y]"><img src=[z]>`, "x&y", "z")
	for _, s := range []string{
		"",
		"text",
		`<a href="[x]">`,
		`<a href='[x]'>`,
		"<a href=[x]>",
		"text<a href=[x]>text</a>text",
		"<body background=[x]><img src=[y]><a href=[z]>",
		// Of any tag, and as often as they stand there.
		"<x1y href=[x]>",
		"<H1 src=[x] src=[x] href=[y] background=[z]>",
		`<a href="[x]" b="c" src='[y]' d>`,
		`<a b href="[x]">`,
		// In both sizes.
		"<A HREF=[X]><Img Src=[Y]><BODY bACKGROUNd=[Z]>",
		// Of others nothing, nor of those without a value.
		"<a hre=x hreff=x xhref=x data-src=x src.=x alt=x>",
		"<a href><a href ><a href/><a src b=c>",
		`<a "href"=x 'src'=x href"=x>`,
		"<a x=href href=[y]>",
		"<a x=src=z>",
		// No value is one, too.
		`<a href="[]"><a href='[]'><a href=[]>`,
		"<a href = []>",
		// Nothing but a letter begins a tag.
		"< a href=x>",
		"<1 href=x>",
		"<>< <= <a href=[x]>",
		"<\xc3\xa9 href=x>",
		"a href=x>",
		"&lt;a href=x>",
	} {
		wantMarked(t, s)
	}
}

func TestLinksAhead(t *testing.T) {
	for _, s := range []string{
		// Blanks and / stand ahead of attributes, or nothing does.
		"<a/href=[x]>",
		"<a / // \t\r\n/ href=[x]>",
		"<a\thref=[x]\rsrc=[y]\nhref=[z]>",
		`<a href="[x]"src='[y]'href="[z]">`,
		`<a href="[x]"/src=[y]>`,
		"<a href=[x] />",
		"<a/>href=x",
		// Behind a tag's name, too.
		`<a"href=x src=[y]>`,
		"<a-b href=[x]>",
		"<a:href=x>",
		"<a=href=x src=[y]>",
		"<a<a href=[x]>",
		"<a\xc3\xa9 href=[x]>",
		// A blank is neither of these.
		"<a\vhref=x>",
		"<a\fhref=x>",
		"<a\x00href=x>",
		"<a \xa0href=x>",
	} {
		wantMarked(t, s)
	}
}

func TestLinksNames(t *testing.T) {
	for _, s := range []string{
		// The first byte is the name's, whatever it is.
		"<a =href=x>",
		"<a =href href=[x]>",
		"<a == href=x>",
		"<a === href=[x]>",
		"<a =>",
		"<a = href=[x]>",
		`<a "href=x>`,
		`<a " href=[x]>`,
		"<a < href=[x]>",
		"<a <href=x>",
		// Of a name that / ends no value is told.
		"<a href/=x>",
		"<a href/ =x>",
		"<a href /=x>",
		"<a href/src=[x]>",
		// Blanks ahead of a =, and behind it.
		"<a href =[x]>",
		"<a href= [x]>",
		"<a href \t\r\n= \t\r\n[x]>",
		"<a href \t\r\n= \t\r\n\"[x]\">",
		"<a href b =x>",
		"<a b href =[x]>",
		"<a href\v=x>",
		"<a href=[\vx]>",
	} {
		wantMarked(t, s)
	}
}

func TestLinksValues(t *testing.T) {
	for _, s := range []string{
		`<a href="[x>y]">`,
		`<a href='[x>y]'>`,
		`<a href="['x']">`,
		`<a href='["x"]'>`,
		"<a href=\"[ x\r\n\ty/=z ]\">",
		`<a href="[<a href=y>]"><a src=[z]>`,
		`<a x="<a href=y>" src=[z]>`,
		`<a x='>' src=[z]>`,
		// In no quotes all but a blank or > stands.
		`<a href=[x"y]>`,
		`<a href=[x'y'] src=[z]>`,
		"<a href=[x/]>",
		"<a href=[/] src=[//]>",
		"<a href=[x=y]>",
		"<a href=[=x]>",
		"<a href=[<a] src=[y]>",
		"<a href=[x]\tsrc=[y]\nsrc=[z]\rx>",
		"<a href=[x\v\f\x00\xff]>",
		"<a href=[]><a src=[y]>",
	} {
		wantMarked(t, s)
	}
}

func TestLinksLeftOut(t *testing.T) {
	for _, s := range []string{
		"<!-- <a href=x> --><a href=[y]>",
		"<!----><a href=[y]>",
		"<!--><a href=x>--><a href=[y]>",
		"<!---><a href=x>--><a href=[y]>",
		"<!--x--y->z-- ><a href=x>--><a href=[y]>",
		"<!-- <!-- --><a href=[y]>--><a href=[z]>",
		"<!-- --!><a href=x> --><a href=[y]>",
		`<!-- " --><a href=[y]> "`,
		"<!- <a href=x>--><a href=[y]>",
		"<! --><a href=[x]>-->",
		"<!d src=x><a href=[y]>",
		"<!d '>' <a href=[x]>",
		"<!><a href=[x]>",
		"<?x src=x?><a href=[y]>",
		"<?x <a href=x><a href=[y]>",
		"<?><a href=[x]>",
		"</a href=x><a href=[y]>",
		"</a <a href=x><a href=[y]>",
		"</><a href=[x]>",
		`</a x=">"<a href=[y]>`,
		"</!-- ><a href=[x]> -->",
		"< !-- <a href=[x]> -->",
	} {
		wantMarked(t, s)
	}
}

func TestLinksVerbatim(t *testing.T) {
	for _, name := range []string{"script", "style", "textarea", "title", "SCRIPT", "Style", "textAREA", "tITLe"} {
		small, great := strings.ToLower(name), strings.ToUpper(name)
		for _, s := range []string{
			"<NAME><a href=x></NAME><a href=[y]>",
			"<NAME><a href=x></" + small + "><a href=[y]>",
			"<NAME><a href=x></" + great + "><a href=[y]>",
			"<NAME></NAME><a href=[y]>",
			// Its own links are told.
			"<NAME src=[x]><a href=y></NAME><a href=[z]>",
			`<NAME x="</NAME>" src=[x]><a href=y></NAME><a href=[z]>`,
			"<NAME/><a href=x></NAME/><a href=[y]>",
			"<NAME\n/ ><a href=x></NAME><a href=[y]>",
			// What stands in it begins and ends nothing.
			"<NAME><!-- </NAME><a href=[x]> -->",
			`<NAME>" </NAME><a href=[x]> "`,
			"<NAME><NAME></NAME><a href=[x]></NAME>",
			"<NAME></b></ NAME><a href=x>< /NAME></NAM><a href=x></NAME><a href=[y]>",
			"<NAME><script><style><textarea><title><a href=x></NAME><a href=[y]>",
			// Its end is left out up to the next >.
			"<NAME></NAME <a href=x><a href=[y]>",
			"<NAME></NAME src=x><a href=[y]>",
			"<NAME></NAMEs href=x><a href=[y]>",
			"<NAME></NAME",
			"<NAME></NAME <a href=x",
			// No such tag is one of a longer name, or a shorter one.
			"<NAMEs><a href=[x]>",
			"<NAME1><a href=[x]>",
			"<xNAME><a href=[x]>",
			"<b NAME><a href=[x]>",
			"</NAME><a href=[x]>",
			// But one whose name ends elsewhere.
			"<NAME-x><a href=x></NAME><a href=[y]>",
			"<NAME=x><a href=x></NAME><a href=[y]>",
		} {
			wantMarked(t, strings.ReplaceAll(s, "NAME", name))
		}
	}
	for _, s := range []string{
		"<pre><a href=[x]></pre>",
		"<noscript><a href=[x]></noscript>",
		"<title></script><a href=x></title><a href=[y]>",
	} {
		wantMarked(t, s)
	}
}

func TestLinksWithoutEnd(t *testing.T) {
	for _, s := range []string{
		"<a href=[x]><",
		"<a href=[x]><b",
		"<a href=[x]><b ",
		"<a href=[x]><b/",
		"<a href=[x]><b src",
		"<a href=[x]><b src ",
		"<a href=[x]><b src=",
		"<a href=[x]><b src= ",
		"<a href=[x]><b src=y",
		"<a href=[x]><b src='",
		`<a href=[x]><b src="y`,
		`<a href=[x]><b src="y><a href=z>`,
		`<a href=[x]><b src="y'><a href='z'>`,
		`<a href=[x]><b src='y><a href=z>`,
		`<a href=[x]><b c="y><a href=z>`,
		"<a href=[x]><!",
		"<a href=[x]><!-",
		"<a href=[x]><!--",
		"<a href=[x]><!-- <a href=y>",
		"<a href=[x]><!-- <a href=y> ->",
		"<a href=[x]><!-- <a href=y> --",
		"<a href=[x]></",
		"<a href=[x]></b <a href=y",
		"<a href=[x]><?<a href=y",
		"<a href=[x]><title><a href=y>",
		"<a href=[x]><title><a href=y></titl",
		"<a href=[x]><title><a href=y></ title>",
		"<a href=[x]><title><a href=y></style>",
		"<title src=[x]><a href=y>",
		// A value that ends is told, even if its tag does not end.
		`<a href="[x]"`,
		`<a href="[x]" src="y`,
		"<a href=[x] src=y",
		"<a href=[x] b",
		"<a href=[x] ",
		`<a href="[x]" <b src=y`,
		`<script src="[x]" `,
	} {
		wantMarked(t, s)
	}
}

func TestLinksSay(t *testing.T) {
	for _, c := range []struct{ in, want string }{
		{"&amp;", "&"},
		{"&quot;", `"`},
		{"&#39;", "'"},
		{"&lt;", "<"},
		{"&gt;", ">"},
		{"a&amp;b&lt;c&gt;d&quot;e&#39;f", `a&b<c>d"e'f`},
		{"&amp;&amp;", "&&"},
		// What is told so begins no other one.
		{"&amp;amp;", "&amp;"},
		{"&amp;lt;", "&lt;"},
		{"&amp;#39;", "&#39;"},
		{"&amp;amp;amp;", "&amp;amp;"},
		{"&&amp;;", "&&;"},
		{"&lt&lt;;", "&lt<;"},
		// In both sizes.
		{"&AMP;&Quot;&lT;&GT;", `&"<>`},
		{"A&amp;B&AMP;c", "A&B&c"},
		// Others stand for themselves.
		{"&", "&"},
		{"&amp", "&amp"},
		{"&am;", "&am;"},
		{"amp;", "amp;"},
		{"&;", "&;"},
		{"&#38;", "&#38;"},
		{"&#039;", "&#039;"},
		{"&#39", "&#39"},
		{"&#x27;", "&#x27;"},
		{"&apos;", "&apos;"},
		{"&nbsp;", "&nbsp;"},
		{"&auml;", "&auml;"},
		{"%26amp;", "%26amp;"},
		{"\xff\x00\xc3\xa9", "\xff\x00\xc3\xa9"},
	} {
		wantMarked(t, `<a href="[`+c.in+`]">`, c.want)
		wantMarked(t, `<a href='[`+c.in+`]'>`, c.want)
		wantMarked(t, `<a href=[`+c.in+`]>`, c.want)
		wantMarked(t, `<a x="`+c.in+`" src=[y]>`, "y")
	}
	wantMarked(t, `<a href="[ & amp;]">`, " & amp;")
	wantMarked(t, `<a h&#114;ef=x>`)
}

// A letter is one of A to Z, a to z alone: others that look, or count elsewhere, like it in small do not.
func TestLinksOtherLetters(t *testing.T) {
	for _, s := range []string{
		"<a \u017frc=x>",
		"<a bac\u212aground=x>",
		"<\u017fcript><a href=[x]>",
		"<script></\u017fcript><a href=x></script><a href=[y]>",
		"<\u212a href=x>",
		"\u212a\u017f\u0130<a href=[\u0130]><a src=[\u212a]>",
		"<a \u0130 href=[x]>",
		"<a\u0130 href=[x]>",
	} {
		wantMarked(t, s)
	}
}

func TestLinksEachByteBehind(t *testing.T) {
	for i := range 256 {
		c := byte(i)
		s := "<" + bytes(c) + " href=x>"
		switch {
		case isLetter(c):
			wantLinks(t, s, []api.Link{{At: 8, Long: 1, Value: "x"}})
		default:
			wantLinks(t, s, nil)
		}
		s = "<" + bytes(c) + "<a href=x>"
		switch c {
		case '/', '!', '?':
			wantLinks(t, s, nil)
		default:
			wantLinks(t, s, []api.Link{{At: 10, Long: 1, Value: "x"}})
		}
	}
}

func TestLinksEachByteOfATagsName(t *testing.T) {
	for i := range 256 {
		c := byte(i)
		s := "<title" + bytes(c) + "><a href=x>"
		switch {
		case isLetter(c), isDigit(c):
			wantLinks(t, s, []api.Link{{At: 16, Long: 1, Value: "x"}})
		default:
			wantLinks(t, s, nil)
		}
		s = "<b" + bytes(c) + "href=x>"
		switch {
		case isBlank(c), c == '/':
			wantLinks(t, s, []api.Link{{At: 8, Long: 1, Value: "x"}})
		default:
			wantLinks(t, s, nil)
		}
	}
}

func TestLinksEachByteOfAName(t *testing.T) {
	told := []api.Link{{At: 9, Long: 1, Value: "x"}}
	for i := range 256 {
		c := byte(i)
		// The first one.
		s := "<b " + bytes(c) + "href=x>"
		switch {
		case isBlank(c), c == '/':
			wantLinks(t, s, told)
		default:
			wantLinks(t, s, nil)
		}
		// The last one.
		s = "<b href" + bytes(c) + "=x>"
		switch {
		case isBlank(c):
			wantLinks(t, s, told)
		case c == '=':
			wantLinks(t, s, []api.Link{{At: 8, Long: 2, Value: "=x"}})
		default:
			wantLinks(t, s, nil)
		}
		// One between.
		s = "<b x" + bytes(c) + "src=x>"
		switch {
		case isBlank(c), c == '/':
			wantLinks(t, s, told)
		default:
			wantLinks(t, s, nil)
		}
	}
}

func TestLinksEachByteOfAValue(t *testing.T) {
	for i := range 256 {
		c := byte(i)
		value := bytes('x', c, 'y')
		// In no quotes.
		l := api.Link{At: 8, Long: 3, Value: value}
		if isBlank(c) || c == '>' {
			l = api.Link{At: 8, Long: 1, Value: "x"}
		}
		wantLinks(t, "<b href="+value+">", []api.Link{l})
		for _, quote := range []byte(`"'`) {
			l := api.Link{At: 9, Long: 3, Value: value}
			if c == quote {
				l = api.Link{At: 9, Long: 1, Value: "x"}
			}
			wantLinks(t, "<b href="+bytes(quote)+value+bytes(quote)+` x=">">`, []api.Link{l})
		}
		// The first one.
		s := "<b href=" + bytes(c) + "x src=z>"
		switch {
		case isBlank(c):
			wantLinks(t, s, []api.Link{{At: 9, Long: 1, Value: "x"}, {At: 15, Long: 1, Value: "z"}})
		case c == '>':
			wantLinks(t, s, []api.Link{{At: 8}})
		case c == '"', c == '\'':
			wantLinks(t, s, nil)
		default:
			wantLinks(t, s, []api.Link{{At: 8, Long: 2, Value: bytes(c) + "x"}, {At: 15, Long: 1, Value: "z"}})
		}
	}
}

// The chapter's words as patterns: another reader.
var (
	notePattern  = regexp.MustCompile(`^<!--(?s:.*?)-->`)
	otherPattern = regexp.MustCompile(`^<[/!?][^>]*>`)
	tagPattern   = regexp.MustCompile(`^<[A-Za-z][A-Za-z0-9]*`)
	aheadPattern = regexp.MustCompile(`^[ \t\r\n/]*`)
	namePattern  = regexp.MustCompile(`^(?s:.)[^ \t\r\n/=>]*`)
	equalPattern = regexp.MustCompile(`^[ \t\r\n]*=[ \t\r\n]*`)
	barePattern  = regexp.MustCompile(`^([^ \t\r\n>]*)[ \t\r\n>]`)
	leadPattern  = regexp.MustCompile(`^([Bb][Aa][Cc][Kk][Gg][Rr][Oo][Uu][Nn][Dd]|[Hh][Rr][Ee][Ff]|[Ss][Rr][Cc])$`)
	wordPattern  = regexp.MustCompile(`&([Aa][Mm][Pp]|[Qq][Uu][Oo][Tt]|#39|[Ll][Tt]|[Gg][Tt]);`)

	endPatterns = map[string]*regexp.Regexp{
		"script":   regexp.MustCompile(`</[Ss][Cc][Rr][Ii][Pp][Tt]`),
		"style":    regexp.MustCompile(`</[Ss][Tt][Yy][Ll][Ee]`),
		"textarea": regexp.MustCompile(`</[Tt][Ee][Xx][Tt][Aa][Rr][Ee][Aa]`),
		"title":    regexp.MustCompile(`</[Tt][Ii][Tt][Ll][Ee]`),
	}
)

// linksByPattern tells the links by cutting the page from its front, piece by piece.
func linksByPattern(s string) (links []api.Link) {
	all := len(s)
	for {
		i := strings.IndexByte(s, '<')
		if i < 0 {
			return links
		}
		s = s[i:]
		switch {
		case strings.HasPrefix(s, "<!--"):
			m := notePattern.FindString(s)
			if m == "" {
				return links
			}
			s = s[len(m):]
		case otherPattern.MatchString(s):
			s = s[len(otherPattern.FindString(s)):]
		case len(s) > 1 && strings.Contains("/!?", s[1:2]):
			return links
		case tagPattern.MatchString(s):
			var more []api.Link
			more, s = tagByPattern(s, all)
			links = append(links, more...)
		default:
			s = s[1:]
		}
	}
}

// tagByPattern is the links of the tag that a text begins with, and what stands behind it, and behind what it leaves out: nothing, where something does not end.
func tagByPattern(s string, all int) (links []api.Link, rest string) {
	name := tagPattern.FindString(s)
	s = s[len(name):]
	for {
		s = s[len(aheadPattern.FindString(s)):]
		if s == "" {
			return links, ""
		}
		if s[0] == '>' {
			break
		}
		attribute := namePattern.FindString(s)
		s = s[len(attribute):]
		equal := equalPattern.FindString(s)
		s = s[len(equal):]
		if equal == "" {
			continue
		}
		value, ahead, behind, ok := valueByPattern(s)
		if !ok {
			return links, ""
		}
		if leadPattern.MatchString(attribute) {
			links = append(links, api.Link{At: all - len(s) + ahead, Long: len(value), Value: saidByPattern(value)})
		}
		s = s[ahead+len(value)+behind:]
	}
	if end := endPatterns[strings.ToLower(name[1:])]; end != nil {
		at := end.FindStringIndex(s)
		if at == nil {
			return links, ""
		}
		s = s[at[0]:]
	}
	return links, s
}

// valueByPattern is the value that a text begins with, and how many bytes of quotes stand ahead of it, and behind it; false: it does not end.
func valueByPattern(s string) (value string, ahead, behind int, ok bool) {
	if s != "" && (s[0] == '"' || s[0] == '\'') {
		value, _, ok = strings.Cut(s[1:], s[:1])
		return value, 1, 1, ok
	}
	m := barePattern.FindStringSubmatch(s)
	if m == nil {
		return "", 0, 0, false
	}
	return m[1], 0, 0, true
}

func saidByPattern(s string) string {
	return wordPattern.ReplaceAllStringFunc(s, func(w string) string {
		return map[string]string{"&amp;": "&", "&quot;": `"`, "&#39;": "'", "&lt;": "<", "&gt;": ">"}[strings.ToLower(w)]
	})
}

// texts are all texts of such pieces, up to a number of them.
func texts(pieces []string, most int) []string {
	all := []string{""}
	last := all
	for range most {
		var next []string
		for _, s := range last {
			for _, p := range pieces {
				next = append(next, s+p)
			}
		}
		all = append(all, next...)
		last = next
	}
	return all
}

// pages are all of some short ones.
func pages() []string {
	var all []string
	for _, s := range texts([]string{"<", "!", "-", ">", "/", "<a href=x>", "?"}, 5) {
		all = append(all, s+"<a src=y>", "<!--"+s+"<a src=y>")
	}
	for _, s := range texts([]string{"href", "=", " ", `"`, "'", "/", ">", "x", "<"}, 4) {
		all = append(all, "<a "+s+` src="y">z`, "<a href"+s, "<a href="+s+"> src='z'>")
	}
	for _, s := range texts([]string{"<title", "</TITLE", "<Script", "</script", ">", " ", "<a href=x>", "s"}, 5) {
		all = append(all, s, s+"><a src=y>")
	}
	for _, s := range texts([]string{"&", "amp", ";", "&lt", "&amp;", "#39;", " "}, 5) {
		all = append(all, `<a href="`+s+`" src=`+s+`>`)
	}
	return all
}

func TestLinksAsTold(t *testing.T) {
	for _, s := range pages() {
		wantLinks(t, s, linksByPattern(s))
	}
}

func TestLinksOfMuch(t *testing.T) {
	const n = 100_000
	for _, s := range []string{
		"<", "<a", "<a ", "<!--", "<!---->", "</", "<title>", "<title></title>", "<title></titl", "&amp;", "<a x='", "<a =", "<a x=", "/", ">", "<script x=y></SCRIPT",
	} {
		much := strings.Repeat(s, n)
		wantLinks(t, much, nil)
		wantLinks(t, "<a href=x>"+much, []api.Link{{At: 8, Long: 1, Value: "x"}})
	}
	var want []api.Link
	for i := range n {
		want = append(want, api.Link{At: i*16 + 9, Long: 5, Value: "&"})
	}
	wantLinks(t, strings.Repeat(`<a href="&amp;">`, n), want)
	long := strings.Repeat("&lt;", n)
	wantLinks(t, "<a href="+long+">", []api.Link{{At: 8, Long: 4 * n, Value: strings.Repeat("<", n)}})
	wantLinks(t, "<a href="+long, nil)
}

func TestLinksAreFresh(t *testing.T) {
	const s = "<a href=x><a href=y>"
	want := []api.Link{{At: 8, Long: 1, Value: "x"}, {At: 18, Long: 1, Value: "y"}}
	l := page.Links(s)
	l[0], l[1] = api.Link{}, api.Link{}
	wantLinks(t, s, want)
	wantReplace(t, s, []string{"1", "2"}, `<a href="1"><a href="2">`)
}

// 6.2

func TestEscape(t *testing.T) {
	for _, c := range []struct{ in, want string }{
		{"", ""},
		{"a", "a"},
		{"&", "&amp;"},
		{`"`, "&quot;"},
		{"'", "&#39;"},
		{"<", "&lt;"},
		{">", "&gt;"},
		{`a&b"c'd<e>f`, "a&amp;b&quot;c&#39;d&lt;e&gt;f"},
		{"&amp;", "&amp;amp;"},
		{"&&", "&amp;&amp;"},
		{"<a href='x'>", "&lt;a href=&#39;x&#39;&gt;"},
		{" \t\r\n\x00\xff\xc3\xa9", " \t\r\n\x00\xff\xc3\xa9"},
	} {
		wantEscape(t, c.in, c.want)
	}
}

func TestEscapeEachByte(t *testing.T) {
	written := map[byte]string{'&': "&amp;", '"': "&quot;", '\'': "&#39;", '<': "&lt;", '>': "&gt;"}
	for i := range 256 {
		c := byte(i)
		w, ok := written[c]
		if !ok {
			w = bytes(c)
		}
		wantEscape(t, bytes(c), w)
		wantEscape(t, bytes('x', c, c, 'y'), "x"+w+w+"y")
	}
}

func TestReplace(t *testing.T) {
	for _, c := range []struct {
		in     string
		values []string
		want   string
	}{
		{"", nil, ""},
		{"text <b>", []string{}, "text <b>"},
		{`<a href="x&amp;y"><img src=z>`, []string{"a", "b"}, `<a href="a"><img src="b">`},
		// The quotes stay those that stood there.
		{`<a href="x">`, []string{"y"}, `<a href="y">`},
		{`<a href='x'>`, []string{"y"}, `<a href='y'>`},
		{`<a href=x>`, []string{"y"}, `<a href="y">`},
		{`<a href=''>`, []string{"y"}, `<a href='y'>`},
		{`<a href=x"y'>`, []string{"z"}, `<a href="z">`},
		// No value has its quotes set, too; and one may become none.
		{`<a href=>`, []string{"y"}, `<a href="y">`},
		{`<a href= >`, []string{"y"}, `<a href= "y">`},
		{`<a href=x>`, []string{""}, `<a href="">`},
		{`<a href='x'>`, []string{""}, `<a href=''>`},
		{`<a href="">`, []string{""}, `<a href="">`},
		{`<a href=>`, []string{""}, `<a href="">`},
		// Escaped.
		{`<a href="x">`, []string{`&"'<>`}, `<a href="&amp;&quot;&#39;&lt;&gt;">`},
		{`<a href='x'>`, []string{`&"'<>`}, `<a href='&amp;&quot;&#39;&lt;&gt;'>`},
		{`<a href=x>`, []string{`&"'<>`}, `<a href="&amp;&quot;&#39;&lt;&gt;">`},
		{`<a href=x>`, []string{"&amp;"}, `<a href="&amp;amp;">`},
		{`<a href=x>`, []string{"a b\r\n\xff"}, "<a href=\"a b\r\n\xff\">"},
		// All else stays.
		{" <A x = y HREF\t=\n'x' b/>\xff</A><!-- <a href=x> --><img src=z/>", []string{"1", "2"}, " <A x = y HREF\t=\n'1' b/>\xff</A><!-- <a href=x> --><img src=\"2\">"},
		{`<a href=x src='y' background="z">x y z`, []string{"y", "z", "x"}, `<a href="y" src='z' background="x">x y z`},
		{`<title src=x><a href=y></title><a href=z`, []string{"1"}, `<title src="1"><a href=y></title><a href=z`},
		{`<a href=x src=y`, []string{"1"}, `<a href="1" src=y`},
		{`<a href="&AMP;">&AMP;`, []string{"&"}, `<a href="&amp;">&AMP;`},
	} {
		wantReplace(t, c.in, c.values, c.want)
	}
}

func TestReplaceWrong(t *testing.T) {
	for _, c := range []struct {
		in     string
		values []string
	}{
		{"", []string{""}},
		{"text", []string{"x"}},
		{"<a href=x>", nil},
		{"<a href=x>", []string{}},
		{"<a href=x>", []string{"y", "z"}},
		{"<a href=x src=y>", []string{"z"}},
		{"<a href=x", []string{"y"}},
		{"<a href>", []string{"y"}},
		{"<!-- <a href=x> -->", []string{"y"}},
	} {
		wantReplaceWrong(t, c.in, c.values)
	}
}

func TestReplaceLeavesWhatItIsGiven(t *testing.T) {
	values := []string{"<", ">", "&"}
	wantReplace(t, "<a href=x src=y>", values[:2], `<a href="&lt;" src="&gt;">`)
	if !slices.Equal(values, []string{"<", ">", "&"}) {
		t.Errorf("written into: %q", values)
	}
}

func TestReplaceMuch(t *testing.T) {
	const n = 100_000
	values := slices.Repeat([]string{"<"}, n)
	wantReplace(t, strings.Repeat("<a href=x>", n), values, strings.Repeat(`<a href="&lt;">`, n))
	wantReplaceWrong(t, strings.Repeat("<a href=x>", n), values[1:])
	wantReplace(t, "<a href=x>", []string{strings.Repeat("&", n)}, `<a href="`+strings.Repeat("&amp;", n)+`">`)
}

// Elsewhere, and only there: of the second sentence of what is to be true of the whole.

// apart is what stands between a page's values, without quotes round them; and the values as they stand there.
func apart(s string) (between, values []string) {
	done := 0
	for _, l := range page.Links(s) {
		from, to := l.At, l.At+l.Long
		values = append(values, s[from:to])
		ahead := s[done:from]
		if q := ahead[len(ahead)-1:]; q == `"` || q == "'" {
			ahead = ahead[:len(ahead)-1]
			to++
		}
		between = append(between, ahead)
		done = to
	}
	return append(between, s[done:]), values
}

// wantElsewhere asks that a page leads where such values say, and is the same all around them.
func wantElsewhere(t *testing.T, s string, values []string) {
	t.Helper()
	got, err := page.Replace(s, values)
	if err != nil {
		t.Errorf("%.300q, %.300q: %v", s, values, err)
		return
	}
	for i, l := range page.Links(got) {
		if i >= len(values) || l.Value != values[i] {
			t.Errorf("%.300q, %.300q: %.600q leads elsewhere", s, values, got)
		}
	}
	between, _ := apart(s)
	around, written := apart(got)
	if !slices.Equal(between, around) {
		t.Errorf("%.300q, %.300q: %.600q: not only there", s, values, got)
	}
	for i, w := range written {
		// Another reader, else writer and reader could be wrong alike.
		if html.UnescapeString(w) != values[i] {
			t.Errorf("%.300q, %.300q: %q is read elsewhere as %q", s, values, w, html.UnescapeString(w))
		}
	}
	wantReplace(t, got, values, got)
}

// ownValues is what a page's links say.
func ownValues(s string) (values []string) {
	for _, l := range page.Links(s) {
		values = append(values, l.Value)
	}
	return values
}

func TestElsewhereAndOnlyThere(t *testing.T) {
	some := []string{"", "x", `"`, "'", ">", " ", "&amp;", "</title", "<!--", "a&b", "\xff", "/", "=", "&AMP;"}
	for i, s := range pages() {
		values := ownValues(s)
		wantElsewhere(t, s, values)
		wantReplaceWrong(t, s, append(slices.Clone(values), ""))
		for k := range values {
			values[k] = some[(i+k*5)%len(some)]
		}
		wantElsewhere(t, s, values)
	}
}

func TestAnywhereElse(t *testing.T) {
	for _, v := range texts([]string{"a", "&", "amp;", `"`, "'", "<", ">", " ", "#39;"}, 4) {
		wantElsewhere(t, `<a href=x><a href='x'><a href="x">`, []string{v, v, v})
		wantElsewhere(t, `<title src=>x</title><a href= b src=''>`, []string{v, v, v})
	}
	for i := range 256 {
		v := bytes(byte(i))
		wantElsewhere(t, `<a href=x><a href='x'><a href="x">`, []string{v, "x" + v + "y", v + v})
	}
}

func FuzzLinksAsTold(f *testing.F) {
	f.Add(`<a href="x&amp;y"><img src=z>`)
	f.Add("<!-- --><script src = 'x' ></SCRIPT ><title/></a>")
	f.Fuzz(func(t *testing.T, s string) { wantLinks(t, s, linksByPattern(s)) })
}

func FuzzElsewhereAndOnlyThere(f *testing.F) {
	f.Add(`<a href="x&amp;y"><img src=z><a href=''>`, "a&b", `"'`)
	f.Fuzz(func(t *testing.T, s, one, two string) {
		values := ownValues(s)
		wantElsewhere(t, s, values)
		for i := range values {
			values[i] = []string{one, two, one + two}[i%3]
		}
		wantElsewhere(t, s, values)
	})
}
