package address_test

import (
	"net/url"
	"path"
	"regexp"
	"slices"
	"strings"
	"testing"

	"bindery/address"
	"bindery/api"
	"bindery/plain"
)

func bytes(l ...byte) string { return string(l) }

// at is the address that a text is, where the text is one.
func at(t *testing.T, s string) api.Address {
	t.Helper()
	a, err := address.Read(s)
	if err != nil {
		t.Fatalf("%q: %v", s, err)
	}
	return a
}

// wantRead asks for an address, and that it is written as the text that it was read from, which makes it right.
func wantRead(t *testing.T, s string, want api.Address) {
	t.Helper()
	a, err := address.Read(s)
	if a != want || err != nil {
		t.Errorf("%q: got %+v, %v, want %+v", s, a, err, want)
	}
	wantWrite(t, want, s)
	wantRight(t, want, true)
}

// wantReadWrong asks for ErrForm alone: no place, and nothing beside it.
func wantReadWrong(t *testing.T, s string) {
	t.Helper()
	a, err := address.Read(s)
	if e, place := plain.Place(err); e != api.ErrForm || place != -1 || a != (api.Address{}) {
		t.Errorf("%q: got %+v, error %d at %d, want ErrForm alone", s, a, e, place)
	}
}

func wantWrite(t *testing.T, a api.Address, want string) {
	t.Helper()
	if got := address.Write(a); got != want {
		t.Errorf("%+v: written as %q, want %q", a, got, want)
	}
}

func wantRight(t *testing.T, a api.Address, want bool) {
	t.Helper()
	if got := address.Right(a); got != want {
		t.Errorf("%+v: right: %v, want %v", a, got, want)
	}
}

func wantDots(t *testing.T, p, want string) {
	t.Helper()
	if got := address.Dots(p); got != want {
		t.Errorf("%q: got %q, want %q", p, got, want)
	}
}

// wantResolve asks of texts.
func wantResolve(t *testing.T, base, a, want string) {
	t.Helper()
	wantResolved(t, at(t, base), at(t, a), at(t, want))
}

func wantResolved(t *testing.T, base, a, want api.Address) {
	t.Helper()
	if got := address.Resolve(base, a); got != want {
		t.Errorf("at %+v: %+v: got %+v, want %+v", base, a, got, want)
	}
}

func wantWhole(t *testing.T, a, want api.Address) {
	t.Helper()
	if got := address.Whole(a); got != want {
		t.Errorf("%+v: got %+v, want %+v", a, got, want)
	}
}

// texts are all texts of such pieces, up to a number of them.
func texts(pieces []string, most int) []string {
	all := []string{""}
	last := all
	for range most {
		var next []string
		for _, s := range last {
			for _, p := range pieces {
				next = append(next, s+p)
			}
		}
		all = append(all, next...)
		last = next
	}
	return all
}

// 4.1

func TestRead(t *testing.T) {
	for _, c := range []struct {
		in   string
		want api.Address
	}{
		{"", api.Address{}},
		{"http://a/b/c/d?q#f", api.Address{Scheme: "http", HasAuth: true, Auth: "a", Path: "/b/c/d", HasQuery: true, Query: "q", HasFrag: true, Frag: "f"}},
		{"cid:part1@b0#d", api.Address{Scheme: "cid", Path: "part1@b0", HasFrag: true, Frag: "d"}},
		{"a", api.Address{Path: "a"}},
		{"/", api.Address{Path: "/"}},
		{"../g", api.Address{Path: "../g"}},
		// What there is may be empty.
		{"#", api.Address{HasFrag: true}},
		{"?", api.Address{HasQuery: true}},
		{"//", api.Address{HasAuth: true}},
		{"?#", api.Address{HasQuery: true, HasFrag: true}},
		{"a:", api.Address{Scheme: "a"}},
		{"a://?#", api.Address{Scheme: "a", HasAuth: true, HasQuery: true, HasFrag: true}},
		{"///", api.Address{HasAuth: true, Path: "/"}},
		{"///a", api.Address{HasAuth: true, Path: "/a"}},
		{"////a", api.Address{HasAuth: true, Path: "//a"}},
		// The first # ends all but the fragment, the first ? ahead of it all but the query.
		{"#a#b", api.Address{HasFrag: true, Frag: "a#b"}},
		{"##", api.Address{HasFrag: true, Frag: "#"}},
		{"#?", api.Address{HasFrag: true, Frag: "?"}},
		{"#a?b:c//d/e", api.Address{HasFrag: true, Frag: "a?b:c//d/e"}},
		{"?a?b", api.Address{HasQuery: true, Query: "a?b"}},
		{"??", api.Address{HasQuery: true, Query: "?"}},
		{"?a:b//c/d#", api.Address{HasQuery: true, Query: "a:b//c/d", HasFrag: true}},
		{"a?b:c", api.Address{Path: "a", HasQuery: true, Query: "b:c"}},
		{"a#b:c", api.Address{Path: "a", HasFrag: true, Frag: "b:c"}},
		{"//a?b/c", api.Address{HasAuth: true, Auth: "a", HasQuery: true, Query: "b/c"}},
		{"//a#b/c", api.Address{HasAuth: true, Auth: "a", HasFrag: true, Frag: "b/c"}},
		// Schemes.
		{"a:b", api.Address{Scheme: "a", Path: "b"}},
		{"a:b:c", api.Address{Scheme: "a", Path: "b:c"}},
		{"a::", api.Address{Scheme: "a", Path: ":"}},
		{"X-y+z.0:b", api.Address{Scheme: "X-y+z.0", Path: "b"}},
		{"a1:", api.Address{Scheme: "a1"}},
		{"a+:", api.Address{Scheme: "a+"}},
		{"a:/b", api.Address{Scheme: "a", Path: "/b"}},
		{"a:?b", api.Address{Scheme: "a", HasQuery: true, Query: "b"}},
		{"HTTP://A", api.Address{Scheme: "HTTP", HasAuth: true, Auth: "A"}},
		// No schemes.
		{":", api.Address{Path: ":"}},
		{":a", api.Address{Path: ":a"}},
		{"://a", api.Address{Path: "://a"}},
		{"1a:b", api.Address{Path: "1a:b"}},
		{"+a:b", api.Address{Path: "+a:b"}},
		{"-:b", api.Address{Path: "-:b"}},
		{".:b", api.Address{Path: ".:b"}},
		{"./a:b", api.Address{Path: "./a:b"}},
		{"a/b:c", api.Address{Path: "a/b:c"}},
		{"a_b:c", api.Address{Path: "a_b:c"}},
		{"a%62:c", api.Address{Path: "a%62:c"}},
		// The first : decides alone.
		{"1:b:c", api.Address{Path: "1:b:c"}},
		{":b:c", api.Address{Path: ":b:c"}},
		{"/a:b", api.Address{Path: "/a:b"}},
		// Authorities.
		{"//a:8/b:c", api.Address{HasAuth: true, Auth: "a:8", Path: "/b:c"}},
		{"//u@a", api.Address{HasAuth: true, Auth: "u@a"}},
		{"//a//b", api.Address{HasAuth: true, Auth: "a", Path: "//b"}},
		{"a:////", api.Address{Scheme: "a", HasAuth: true, Path: "//"}},
		{"a//b", api.Address{Path: "a//b"}},
		{"/a//b", api.Address{Path: "/a//b"}},
		{"a:b//c", api.Address{Scheme: "a", Path: "b//c"}},
		{"//a/..", api.Address{HasAuth: true, Auth: "a", Path: "/.."}},
		{"a://b:c:d", api.Address{Scheme: "a", HasAuth: true, Auth: "b:c:d"}},
	} {
		wantRead(t, c.in, c.want)
	}
}

func TestReadWrong(t *testing.T) {
	for _, s := range []string{
		" ", "\t", "\r\n", "\x00", "\x7f", "\xff", "\xc3\xa9", " a", "a ", "a b", "http://a/ b", "http ://a", "a: b", "//a b", "?a b", "#a b", "a#b\n", "a?\xc3\xa9", "//\xc3\xa9", "a\x1f:", "a\x80b",
	} {
		wantReadWrong(t, s)
	}
}

func TestReadEachByte(t *testing.T) {
	for i := range 256 {
		c := byte(i)
		for _, s := range []string{bytes(c), bytes('a', c), bytes(c, 'a'), bytes('a', c, 'a'), "a:" + bytes(c), "//" + bytes(c), "a:b//" + bytes(c) + "/", "?" + bytes(c), "#" + bytes(c), "a:b" + bytes(c) + "c"} {
			if c < 33 || c > 126 {
				wantReadWrong(t, s)
			} else {
				readAsTold(t, s)
			}
		}
	}
}

func TestReadEachByteOfAScheme(t *testing.T) {
	const letters = "ABCDEFGHIJKLMNOPQRSTUVWXYZabcdefghijklmnopqrstuvwxyz"
	for i := 33; i < 127; i++ {
		c := byte(i)
		if strings.IndexByte("#?:/", c) >= 0 {
			continue
		}
		first, later := bytes(c)+":x", "a"+bytes(c)+":x"
		if strings.IndexByte(letters, c) >= 0 {
			wantRead(t, first, api.Address{Scheme: bytes(c), Path: "x"})
		} else {
			wantRead(t, first, api.Address{Path: first})
		}
		if strings.IndexByte(letters+"0123456789+-.", c) >= 0 {
			wantRead(t, later, api.Address{Scheme: "a" + bytes(c), Path: "x"})
		} else {
			wantRead(t, later, api.Address{Path: later})
		}
	}
}

// The chapter's words as a pattern: another reader.
var pattern = regexp.MustCompile(`^(?:([A-Za-z][A-Za-z0-9+.\-]*):)?(//([^/?#]*))?([^?#]*)(\?([^#]*))?(#(.*))?$`)

func readByPattern(s string) api.Address {
	m := pattern.FindStringSubmatch(s)
	return api.Address{Scheme: m[1], HasAuth: m[2] != "", Auth: m[3], Path: m[4], HasQuery: m[5] != "", Query: m[6], HasFrag: m[7] != "", Frag: m[8]}
}

func readAsTold(t *testing.T, s string) {
	t.Helper()
	if strings.ContainsFunc(s, func(r rune) bool { return r < 33 || r > 126 }) {
		wantReadWrong(t, s)
		return
	}
	wantRead(t, s, readByPattern(s))
}

func TestReadAsTold(t *testing.T) {
	for _, s := range texts([]string{"a", "1", ":", "/", "?", "#", "."}, 6) {
		readAsTold(t, s)
	}
	for _, s := range texts([]string{"a", ":", "//", "/", "?", "#", " "}, 5) {
		readAsTold(t, s)
		readAsTold(t, "b-B:"+s)
	}
}

func TestWrite(t *testing.T) {
	for _, c := range []struct {
		a    api.Address
		want string
	}{
		{api.Address{}, ""},
		{api.Address{Scheme: "a", HasAuth: true, Auth: "b", Path: "/c", HasQuery: true, Query: "d", HasFrag: true, Frag: "e"}, "a://b/c?d#e"},
		// What there is none of is not written, whatever it says.
		{api.Address{Auth: "b", Path: "c", Query: "d", Frag: "e"}, "c"},
		{api.Address{Scheme: "a", Auth: "b", Query: "d", Frag: "e"}, "a:"},
		// What may not stand is written as it is.
		{api.Address{Scheme: " ", HasAuth: true, Auth: "/", Path: "\xff", HasQuery: true, Query: "#", HasFrag: true, Frag: "\n"}, " :///\xff?##\n"},
		{api.Address{Scheme: "1:", Path: "b"}, "1::b"},
		{api.Address{HasAuth: true, Auth: "a", Path: "b"}, "//ab"},
	} {
		wantWrite(t, c.a, c.want)
	}
}

func TestRight(t *testing.T) {
	for _, a := range []api.Address{
		// There is none, and yet it says something.
		{Auth: "a"}, {Query: "a"}, {Frag: "a"}, {Scheme: "a", Path: "b", Query: "c"},
		// A byte that may not stand.
		{Path: " "}, {Scheme: "a b"}, {HasAuth: true, Auth: "\x7f"}, {HasQuery: true, Query: "\xc3\xa9"}, {HasFrag: true, Frag: "\n"}, {Path: "\x00"},
		// Schemes that are none.
		{Scheme: "1"}, {Scheme: "a:b"}, {Scheme: "a/"}, {Scheme: "a?"}, {Scheme: "a#"}, {Scheme: "_"}, {Scheme: ":"},
		// What would be read as something else.
		{Path: "a:b"}, {Path: "a:"}, {Path: "//a"}, {Path: "//"}, {Path: "a?b"}, {Path: "a#b"}, {Scheme: "a", Path: "//b"},
		{HasAuth: true, Auth: "a/b"}, {HasAuth: true, Auth: "a?"}, {HasAuth: true, Auth: "a#"}, {HasAuth: true, Auth: "a", Path: "b"}, {HasAuth: true, Path: "b"},
		{HasQuery: true, Query: "a#b"}, {HasQuery: true, Query: "#"},
	} {
		wantRight(t, a, false)
	}
	for _, a := range []api.Address{
		{}, {Scheme: "a"}, {HasAuth: true}, {HasQuery: true}, {HasFrag: true}, {Path: "/a:b"}, {Path: ":"}, {Scheme: "a", Path: "b:c"}, {HasAuth: true, Path: "//"}, {HasQuery: true, Query: "?"}, {HasFrag: true, Frag: "#?"},
	} {
		wantRight(t, a, true)
	}
}

// Of all addresses of such pieces just those are right that are told by Read of some text: of none other than what they are written as.
func TestRightAsTold(t *testing.T) {
	pieces := []string{"", "a", "/", ":", "//a", "a/b", "?", "#", " "}
	for _, scheme := range pieces {
		for _, auth := range pieces {
			for _, p := range pieces {
				for _, rest := range pieces {
					for has := range 8 {
						a := api.Address{Scheme: scheme, HasAuth: has&1 != 0, Auth: auth, Path: p, HasQuery: has&2 != 0, Query: rest, HasFrag: has&4 != 0, Frag: rest}
						s := address.Write(a)
						wantRight(t, a, !strings.Contains(s, " ") && readByPattern(s) == a)
					}
				}
			}
		}
	}
}

// 4.2

func TestDots(t *testing.T) {
	for _, c := range [][2]string{
		{"", ""},
		{"/", "/"},
		{"a", "a"},
		{"/a/./b/../c", "/a/c"},
		{"a/b", "a/b"},
		{"a/", "a/"},
		{"/a/", "/a/"},
		// Dots at the end leave an empty part there.
		{".", ""}, {"..", ""}, {"/.", "/"}, {"/..", "/"}, {"a/.", "a/"}, {"a/..", ""}, {"/a/..", "/"}, {"a/b/.", "a/b/"}, {"a/b/..", "a/"}, {"/a/b/..", "/a/"},
		{"../..", ""}, {"/../..", "/"}, {"a/../..", ""}, {"a/b/../..", ""}, {"a/b/c/../..", "a/"}, {"./.", ""}, {"/./.", "/"},
		// Ahead of others they leave none.
		{"./", ""}, {"../", ""}, {"./a", "a"}, {"../a", "a"}, {"/./a", "/a"}, {"/../a", "/a"}, {"a/../b", "b"}, {"/a/../b", "/b"}, {"a/../", ""}, {"/a/../", "/"}, {"a/./", "a/"}, {"a/b/../", "a/"},
		{"a/./b", "a/b"}, {"a/b/../c", "a/c"}, {"a/b/../../c", "c"}, {"a/b/../../../c", "c"}, {"/a/../../../b", "/b"}, {"../../a/b", "a/b"},
		// What was left out is not taken twice.
		{"a/b/./../c", "a/c"}, {"a/b/c/../../d", "a/d"}, {"a/b//../c", "a/c"}, {"a/b/../c/../d", "a/d"}, {"/a/b/./.././../c", "/c"}, {"a/../b/..", ""}, {"a/b//..", "a/"},
		// Empty ones stand at both ends alone.
		{"//", "/"}, {"///", "/"}, {"//a", "/a"}, {"a//", "a/"}, {"a//b", "a/b"}, {"a///b", "a/b"}, {"//a//b//", "/a/b/"}, {".//a", "a"}, {"..//a", "a"}, {"/.//a", "/a"}, {"a/..//b", "b"}, {"/a/..//b", "/b"}, {".//", ""}, {"//..", "/"}, {"//.", "/"}, {"a//.", "a/"}, {"//../a", "/a"},
		// Others stand, whatever is in them.
		{"...", "..."}, {"a/.../b", "a/.../b"}, {".a/..b/c./d..", ".a/..b/c./d.."}, {".../..", ""}, {"a/%2e%2E/b", "a/%2e%2E/b"}, {"a/ /../b", "a/b"}, {"\xff/./\x00", "\xff/\x00"}, {"a?/../b#/.", "b#/"}, {"a/..;/b", "a/..;/b"}, {"a:b/../c", "c"}, {"./a:b", "a:b"},
	} {
		wantDots(t, c[0], c[1])
	}
}

// dotsElsewhere is what another package makes of a path that begins with /, and an empty last part where the path's last one is none. Ahead of a path that does not begin so, one is laid, and taken away.
func dotsElsewhere(p string) string {
	l := strings.Split(p, "/")
	rooted := l[0] == "" && len(l) > 1
	out := path.Clean("/" + p)
	if slices.Contains([]string{"", ".", ".."}, l[len(l)-1]) && out != "/" {
		out += "/"
	}
	if !rooted {
		return out[1:]
	}
	return out
}

// dotsByWords goes by the chapter's words: it keeps of each part whether it stands.
func dotsByWords(p string) string {
	parts := strings.Split(p, "/")
	stands := make([]bool, len(parts))
	last := len(parts) - 1
	for i, s := range parts {
		stands[i] = s != "." && s != ".." && (s != "" || i == 0 || i == last)
		for j := i - 1; s == ".." && j >= 0; j-- {
			if stands[j] {
				stands[j] = j == 0 && parts[j] == ""
				break
			}
		}
	}
	if parts[last] == "." || parts[last] == ".." {
		parts[last], stands[last] = "", true
	}
	var out []string
	for i, s := range parts {
		if stands[i] {
			out = append(out, s)
		}
	}
	return strings.Join(out, "/")
}

func dotsAsTold(t *testing.T, p string) {
	t.Helper()
	wantDots(t, p, dotsByWords(p))
	wantDots(t, p, dotsElsewhere(p))
	once := address.Dots(p)
	// What has none keeps all.
	wantDots(t, once, once)
}

func TestDotsAsTold(t *testing.T) {
	for _, p := range texts([]string{"a", ".", "..", "/", "b/"}, 6) {
		dotsAsTold(t, p)
	}
	for _, p := range texts([]string{"/", "./", "../", "a/"}, 7) {
		for _, last := range []string{"", ".", "..", "b"} {
			dotsAsTold(t, p+last)
		}
	}
}

func TestDotsOfMuch(t *testing.T) {
	const n = 200_000
	wantDots(t, strings.Repeat("a/", n)+strings.Repeat("../", n)+"b", "b")
	wantDots(t, "/"+strings.Repeat("../", n), "/")
	wantDots(t, strings.Repeat("/", n)+"a"+strings.Repeat("/", n), "/a/")
	wantDots(t, strings.Repeat("./", n)+strings.Repeat("a/", n), strings.Repeat("a/", n))
}

// 4.3

func TestResolve(t *testing.T) {
	const base = "http://a/b/c/d?q#f"
	for _, c := range [][2]string{
		{"../g", "http://a/b/g"},
		// With a scheme: it is itself.
		{"g:h", "g:h"}, {"g:", "g:"}, {"g:h/../i?j#k", "g:i?j#k"}, {"g://h/./i", "g://h/i"}, {"g://h", "g://h"}, {"http:g", "http:g"}, {"http:", "http:"}, {"http:?y", "http:?y"}, {"g:/../h", "g:/h"}, {"g:a//b", "g:a/b"}, {"G:h", "G:h"},
		// With an authority: base's scheme.
		{"//g", "http://g"}, {"//", "http://"}, {"//g/../h?i#j", "http://g/h?i#j"}, {"//g//h", "http://g/h"}, {"//G?y", "http://G?y"},
		// Without a path: base's, and its query, if there is no other one.
		{"", "http://a/b/c/d?q"}, {"#", "http://a/b/c/d?q#"}, {"#s", "http://a/b/c/d?q#s"}, {"?", "http://a/b/c/d?"}, {"?y", "http://a/b/c/d?y"}, {"?y#s", "http://a/b/c/d?y#s"},
		// With a path from the beginning.
		{"/g", "http://a/g"}, {"/", "http://a/"}, {"/./g", "http://a/g"}, {"/../g", "http://a/g"}, {"/g/..", "http://a/"}, {"/g//h/", "http://a/g/h/"}, {"/g?y#s", "http://a/g?y#s"},
		// With another one: beside base's last part.
		{"g", "http://a/b/c/g"}, {"./g", "http://a/b/c/g"}, {"g/", "http://a/b/c/g/"}, {"g?y", "http://a/b/c/g?y"}, {"g#s", "http://a/b/c/g#s"}, {"g?y#s", "http://a/b/c/g?y#s"}, {";x", "http://a/b/c/;x"},
		{".", "http://a/b/c/"}, {"./", "http://a/b/c/"}, {"..", "http://a/b/"}, {"../", "http://a/b/"}, {"../..", "http://a/"}, {"../../", "http://a/"}, {"../../g", "http://a/g"}, {"../../../g", "http://a/g"}, {"../../../..", "http://a/"},
		{"g.", "http://a/b/c/g."}, {".g", "http://a/b/c/.g"}, {"g..", "http://a/b/c/g.."}, {"..g", "http://a/b/c/..g"}, {"./../g", "http://a/b/g"}, {"./g/.", "http://a/b/c/g/"}, {"g/./h", "http://a/b/c/g/h"}, {"g/../h", "http://a/b/c/h"},
		{"g?y/./x", "http://a/b/c/g?y/./x"}, {"g#s/../x", "http://a/b/c/g#s/../x"}, {"./g:h", "http://a/b/c/g:h"}, {"g//h", "http://a/b/c/g/h"}, {".?", "http://a/b/c/?"},
	} {
		wantResolve(t, base, c[0], c[1])
	}
}

func TestResolveAtOthers(t *testing.T) {
	for _, c := range [][3]string{
		// An authority, and an empty path: a / stands ahead.
		{"http://a", "g", "http://a/g"}, {"http://a?q#f", "g", "http://a/g"}, {"http://a", "..", "http://a/"}, {"http://a", ".", "http://a/"}, {"//a", "g/h", "//a/g/h"}, {"http://", "g", "http:///g"}, {"http://a", "", "http://a"}, {"http://a", "?y", "http://a?y"}, {"http://a?q", "#f", "http://a?q#f"}, {"http://a", "/g", "http://a/g"},
		// Else none does.
		{"http:", "g", "http:g"}, {"cid:x", "g", "cid:g"}, {"cid:x@y", "../g", "cid:g"}, {"cid:x@y", "#f", "cid:x@y#f"}, {"cid:x?q", "", "cid:x?q"}, {"cid:x/y", "g", "cid:x/g"}, {"cid:x/y", "..", "cid:"}, {"cid:x/y/z", "..", "cid:x/"}, {"cid:/x", "g", "cid:/g"}, {"cid:x", "/g", "cid:/g"}, {"cid:x", "//g", "cid://g"},
		{"", "g", "g"}, {"", "", ""}, {"", "/g", "/g"}, {"", "//g", "//g"}, {"", "..", ""}, {"a", "g", "g"}, {"a/b", "g", "a/g"}, {"a/b?q#f", "g", "a/g"}, {"a/", "g", "a/g"}, {"/a", "g", "/g"}, {"//h/a", "../g", "//h/g"}, {"", "g:h", "g:h"}, {"?q#f", "", "?q"}, {"?", "#", "?#"},
		// Base's fragment is never taken, its query with its path alone.
		{"a#f", "", "a"}, {"a#f", "?y", "a?y"}, {"a?q", "a", "a"}, {"a?", "", "a?"}, {"a?q", "?", "a?"},
		// Base's path is taken as it is where there is no other one, else its dots are gone, too.
		{"http://a/b/../c//d/.", "", "http://a/b/../c//d/."}, {"http://a/b/../c", "#f", "http://a/b/../c#f"}, {"http://a/b/../c", "?y", "http://a/b/../c?y"}, {"http://a/b/../c", "g", "http://a/g"}, {"http://a/./b//c", "g", "http://a/b/g"}, {"http://a/b/..", "g", "http://a/b/g"}, {"a/../b", "g", "g"}, {"..", "g", "g"},
		{"http://a//", "g", "http://a/g"}, {"http://a/b/", "g", "http://a/b/g"}, {"http://a/b/", ".", "http://a/b/"}, {"http://a/b?c/d", "g", "http://a/g"},
	} {
		wantResolve(t, c[0], c[1], c[2])
	}
}

// What is no right address is resolved by the same words.
func TestResolveOfWrongOnes(t *testing.T) {
	base := api.Address{Scheme: "s", HasAuth: true, Auth: "h", Path: "/b/c", HasQuery: true, Query: "q"}
	for _, c := range []struct{ base, a, want api.Address }{
		{base, api.Address{Path: "a:b"}, api.Address{Scheme: "s", HasAuth: true, Auth: "h", Path: "/b/a:b"}},
		{base, api.Address{Path: "//x"}, api.Address{Scheme: "s", HasAuth: true, Auth: "h", Path: "/x"}},
		{base, api.Address{Auth: "x", Path: "\xff"}, api.Address{Scheme: "s", HasAuth: true, Auth: "h", Path: "/b/\xff"}},
		{base, api.Address{Scheme: " ", Path: "../x"}, api.Address{Scheme: " ", Path: "x"}},
		{base, api.Address{HasAuth: true, Auth: "x", Path: "./y"}, api.Address{Scheme: "s", HasAuth: true, Auth: "x", Path: "y"}},
		{base, api.Address{Query: "x"}, api.Address{Scheme: "s", HasAuth: true, Auth: "h", Path: "/b/c", HasQuery: true, Query: "q"}},
		{base, api.Address{Frag: "x"}, api.Address{Scheme: "s", HasAuth: true, Auth: "h", Path: "/b/c", HasQuery: true, Query: "q", Frag: "x"}},
		{api.Address{HasAuth: true, Auth: "h", Path: "b"}, api.Address{Path: "x"}, api.Address{HasAuth: true, Auth: "h", Path: "x"}},
		{api.Address{Scheme: "s", Path: "//b"}, api.Address{Path: "x"}, api.Address{Scheme: "s", Path: "/x"}},
	} {
		wantResolved(t, c.base, c.a, c.want)
	}
}

// resolveByWords goes by the chapter's words, one sentence a case.
func resolveByWords(base, a api.Address) api.Address {
	cut := base.Path
	for cut != "" && cut[len(cut)-1] != '/' {
		cut = cut[:len(cut)-1]
	}
	if base.HasAuth && base.Path == "" {
		cut = "/"
	}
	out := api.Address{Scheme: base.Scheme, HasAuth: base.HasAuth, Auth: base.Auth, HasQuery: a.HasQuery, Query: a.Query, HasFrag: a.HasFrag, Frag: a.Frag}
	switch {
	case a.Scheme != "":
		out.Scheme, out.HasAuth, out.Auth, out.Path = a.Scheme, a.HasAuth, a.Auth, dotsByWords(a.Path)
	case a.HasAuth:
		out.HasAuth, out.Auth, out.Path = true, a.Auth, dotsByWords(a.Path)
	case a.Path == "" && a.HasQuery:
		out.Path = base.Path
	case a.Path == "":
		out.Path, out.HasQuery, out.Query = base.Path, base.HasQuery, base.Query
	case a.Path[0] == '/':
		out.Path = dotsByWords(a.Path)
	default:
		out.Path = dotsByWords(cut + a.Path)
	}
	return out
}

// starts and rests make addresses with all that there may be.
var (
	starts = []string{"", "s:", "//h", "s://h", "s://"}
	rests  = []string{"", "?", "?q", "#f", "?q#"}
)

func places(paths []string) []string {
	var out []string
	for _, s := range starts {
		for _, p := range paths {
			for _, r := range rests {
				if !strings.HasSuffix(s, "/") && !strings.HasSuffix(s, "h") || p == "" || p[0] == '/' {
					out = append(out, s+p+r)
				}
			}
		}
	}
	return out
}

// Where it leads is a place: of the second sentence of what is to be true of the whole. From a base that says a scheme a right address leads to a right one, with a scheme.
func TestWhereItLeadsIsAPlace(t *testing.T) {
	paths := texts([]string{"a", "/", "..", ".", "b:c/"}, 3)
	for _, s := range places(texts([]string{"a/", "/", "../", "b"}, 2)) {
		base := at(t, s)
		for _, r := range places(paths) {
			a := at(t, r)
			got := address.Resolve(base, a)
			if want := resolveByWords(base, a); got != want {
				t.Fatalf("at %q: %q: got %+v, want %+v", s, r, got, want)
			}
			if base.Scheme != "" && (got.Scheme == "" || !address.Right(got)) {
				t.Fatalf("at %q: %q leads to %+v", s, r, got)
			}
		}
	}
}

// Where it leads is where it leads from anywhere, but for dots that base's own path has.
func TestWhereItLeadsStays(t *testing.T) {
	for _, s := range []string{"s://h", "s://h/a/b?q", "s:a/b#f", "s:/"} {
		for _, r := range places(texts([]string{"a", "/", "..", "."}, 4)) {
			got := address.Resolve(at(t, s), at(t, r))
			wantResolved(t, at(t, "t://i/j?k#l"), got, got)
		}
	}
}

// Without a scheme ahead, what is left of a path may be read as one: it stands all the same.
func TestWhereItLeadsWithoutAScheme(t *testing.T) {
	got := address.Resolve(at(t, "x"), at(t, "./a:b"))
	if got != (api.Address{Path: "a:b"}) || address.Right(got) {
		t.Errorf("got %+v", got)
	}
}

// Another package resolves alike where base has an authority, no dots and no fragment, and no part between is empty.
func TestResolveElsewhere(t *testing.T) {
	for _, s := range []string{"http://h/a/b/c?q", "http://h/a/b/", "http://h/", "http://h/a"} {
		for _, p := range texts([]string{"a", "/a", "../", "./", "b/"}, 5) {
			if !strings.Contains(p, "//") {
				resolvedElsewhere(t, s, p, p+"?y", p+"#f", p+"?y#f")
			}
		}
	}
}

func resolvedElsewhere(t *testing.T, s string, l ...string) {
	t.Helper()
	base, _ := url.Parse(s)
	for _, r := range l {
		a, _ := url.Parse(r)
		wantResolve(t, s, r, base.ResolveReference(a).String())
	}
}

func TestWhole(t *testing.T) {
	for _, c := range [][2]string{
		{"", ""},
		{"#", ""},
		{"#F", ""},
		{"HTTP://U@A.B:8/C/D?E#F", "http://u@a.b:8/C/D?E"},
		{"http://a/b?c", "http://a/b?c"},
		{"X-Y:A@B", "x-y:A@B"},
		{"//A", "//a"},
		{"///A", "///A"},
		{"A?", "A?"},
		{"?Q#", "?Q"},
		{"//@[`{Z", "//@[`{z"},
		// Dots, empty parts and what stands for a byte stay.
		{"http://a/./B/..//%41", "http://a/./B/..//%41"},
	} {
		wantWhole(t, at(t, c[0]), at(t, c[1]))
	}
	for _, c := range [][2]api.Address{
		{{Frag: "f"}, {}},
		{{Scheme: "\xc3\x89 A", HasAuth: true, Auth: "\xc3\x89\xffB"}, {Scheme: "\xc3\x89 a", HasAuth: true, Auth: "\xc3\x89\xffb"}},
		{{Path: "A", Query: "B"}, {Path: "A", Query: "B"}},
	} {
		wantWhole(t, c[0], c[1])
	}
}

func TestWholeEachByte(t *testing.T) {
	for i := range 256 {
		s := bytes('x', byte(i), 'Y')
		small := bytes('x', byte(i), 'y')
		if i >= 'A' && i <= 'Z' {
			small = bytes('x', byte(i)+32, 'y')
		}
		a := api.Address{Scheme: s, HasAuth: true, Auth: s, Path: s, HasQuery: true, Query: s, HasFrag: true, Frag: s}
		want := api.Address{Scheme: small, HasAuth: true, Auth: small, Path: s, HasQuery: true, Query: s}
		wantWhole(t, a, want)
		wantWhole(t, want, want)
	}
}

func FuzzReadAsTold(f *testing.F) {
	f.Add("http://a/b/c/d?q#f")
	f.Add("./a:b")
	f.Fuzz(func(t *testing.T, s string) { readAsTold(t, s) })
}

func FuzzDotsAsTold(f *testing.F) {
	f.Add("/a/./b/../c")
	f.Fuzz(func(t *testing.T, p string) { dotsAsTold(t, p) })
}

func FuzzWhereItLeads(f *testing.F) {
	f.Add("http://a/b/c/d?q#f", "../g")
	f.Fuzz(func(t *testing.T, s, r string) {
		base, err := address.Read(s)
		a, wrong := address.Read(r)
		if err != nil || wrong != nil {
			return
		}
		got := address.Resolve(base, a)
		if want := resolveByWords(base, a); got != want {
			t.Errorf("at %q: %q: got %+v, want %+v", s, r, got, want)
		}
		if base.Scheme != "" && !address.Right(got) {
			t.Errorf("at %q: %q leads to %+v", s, r, got)
		}
	})
}
