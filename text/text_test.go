package text_test

import (
	"encoding/base64"
	"io"
	"mime/quotedprintable"
	"strings"
	"testing"

	"bindery/api"
	"bindery/plain"
	"bindery/text"
)

const alphabet = "ABCDEFGHIJKLMNOPQRSTUVWXYZabcdefghijklmnopqrstuvwxyz0123456789+/"

// pair is what goes in, and what is asked to come out.
type pair struct{ in, want string }

// x is a line of n plain letters.
func x(n int) string { return strings.Repeat("x", n) }

func wantTexts(t *testing.T, f func(string) string, l []pair) {
	t.Helper()
	for _, p := range l {
		if got := f(p.in); got != p.want {
			t.Errorf("%q: got %q, want %q", p.in, got, p.want)
		}
	}
}

func wantReads(t *testing.T, f func(string) (string, error), l []pair) {
	t.Helper()
	for _, p := range l {
		if got, err := f(p.in); got != p.want || err != nil {
			t.Errorf("%q: got %q and %v, want %q", p.in, got, err, p.want)
		}
	}
}

// wantErrForm asks for the error alone: no place, and nothing beside it.
func wantErrForm(t *testing.T, f func(string) (string, error), l []string) {
	t.Helper()
	for _, s := range l {
		got, err := f(s)
		if e, place := plain.Place(err); got != "" || e != api.ErrForm || place != -1 {
			t.Errorf("%q: got %q, error %d at %d, want ErrForm alone", s, got, e, place)
		}
	}
}

// samples are texts of every length up to most, of a few kinds of bytes each.
func samples(most int) []string {
	kinds := []string{"xyz", " \t", "a \t=\r\n-", "=", "\r\n", "\x00\x7f\x80\xff~! "}
	var l []string
	state := uint32(1)
	draw := func(most int) int {
		state = state*1664525 + 1013904223
		return int(state>>8) % most
	}
	for n := range most + 1 {
		for _, kind := range kinds {
			b := make([]byte, n)
			for i := range b {
				b[i] = kind[draw(len(kind))]
			}
			l = append(l, string(b))
		}
		b := make([]byte, n)
		for i := range b {
			b[i] = byte(draw(256))
		}
		l = append(l, string(b))
	}
	return l
}

// words are all texts of such letters, up to a length.
func words(letters string, most int) []string {
	all := []string{""}
	last := all
	for range most {
		var next []string
		for _, w := range last {
			for i := range len(letters) {
				next = append(next, w+letters[i:i+1])
			}
		}
		all = append(all, next...)
		last = next
	}
	return all
}

// 1.1

func TestPack(t *testing.T) {
	a := strings.Repeat("A", 76) + "\r\n"
	zeros := func(n int) string { return strings.Repeat("\x00", n) }
	wantTexts(t, text.Pack, []pair{
		{"", ""},
		{"Man", "TWFu\r\n"},
		{"Ma", "TWE=\r\n"},
		{"M", "TQ==\r\n"},
		{"Many", "TWFueQ==\r\n"},
		{"\xff\xff\xff", "////\r\n"},
		{"\xff\xff", "//8=\r\n"},
		{"\xff", "/w==\r\n"},
		{"\x00", "AA==\r\n"},
		{"\xfb\xef\xbe", "++++\r\n"},
		{"\r\n", "DQo=\r\n"},
		{zeros(56), strings.Repeat("A", 75) + "=\r\n"},
		{zeros(57), a},
		{zeros(58), a + "AA==\r\n"},
		{zeros(114), a + a},
		{zeros(115), a + a + "AA==\r\n"},
	})
}

func TestPackIsBase64InLines(t *testing.T) {
	for _, s := range samples(240) {
		want, rest := "", base64.StdEncoding.EncodeToString([]byte(s))
		for rest != "" {
			n := min(len(rest), 76)
			want, rest = want+rest[:n]+"\r\n", rest[n:]
		}
		wantTexts(t, text.Pack, []pair{{s, want}})
	}
}

func TestUnpack(t *testing.T) {
	wantReads(t, text.Unpack, []pair{
		{"", ""},
		{" \t\r\n", ""},
		{"TWFu", "Man"},
		{"TWFu\r\n", "Man"},
		{"TWE=", "Ma"},
		{"TQ==", "M"},
		{"TWFuTQ==", "ManM"},
		{"\n\r T\tW\rF\nu ", "Man"},
		{" T Q = \r\n = ", "M"},
		{"TQ=\n=", "M"},
		{"TWE\t=", "Ma"},
		{"////++++", "\xff\xff\xff\xfb\xef\xbe"},
		{strings.Repeat("AAAA", 50), strings.Repeat("\x00", 150)},
	})
}

func TestUnpackWrong(t *testing.T) {
	wantErrForm(t, text.Unpack, []string{
		"A", "AA", "AAA", "AAAAA", "AAAAAA", "AAAAAAA",
		"=", "==", "===", "====", "A===", "=AAA", "A=AA", "AA=A", "A=A=", "A==A",
		"TQ=", "TWE", "TQ", "TWFu=", "TWFu==", "TWFu===", "TWFu====",
		"TQ==TWFu", "TWE=TWFu", "TQ==TQ==", "TWE=\r\nTWE=",
		"TR==", "TWF=", "TWFuTR==", "TWFuTWF=",
		"TWF-", "TWF_", "TWF\x00", "TWF\x80", "TWF\v", "TWF\f", "TWF.", "TWF\xc3\xa9",
		"TWFu\x00", "TWFu\v", "TWF\v=",
	})
}

func TestUnpackTakesItsLettersAlone(t *testing.T) {
	for c := range 256 {
		s := string([]byte{'T', 'W', 'F', byte(c), 'T', 'W', 'F', 'u'})
		if strings.IndexByte(alphabet, byte(c)) < 0 {
			wantErrForm(t, text.Unpack, []string{s})
			continue
		}
		b, _ := base64.StdEncoding.DecodeString(s)
		wantReads(t, text.Unpack, []pair{{s, string(b)}})
	}
}

func TestUnpackBitsLeftOver(t *testing.T) {
	for v := range 64 {
		one, two := "/"+alphabet[v:v+1]+"==", "/+"+alphabet[v:v+1]+"="
		if v%16 == 0 {
			wantReads(t, text.Unpack, []pair{{one, string([]byte{byte(0xfc | v>>4)})}})
		} else {
			wantErrForm(t, text.Unpack, []string{one})
		}
		if v%4 == 0 {
			wantReads(t, text.Unpack, []pair{{two, string([]byte{0xff, byte(0xe0 | v>>2)})}})
		} else {
			wantErrForm(t, text.Unpack, []string{two})
		}
	}
}

func TestUnpackIsStrictBase64(t *testing.T) {
	for _, s := range words("AQ/= -", 6) {
		b, err := base64.StdEncoding.Strict().DecodeString(strings.ReplaceAll(s, " ", ""))
		if err != nil {
			wantErrForm(t, text.Unpack, []string{s})
		} else {
			wantReads(t, text.Unpack, []pair{{s, string(b)}})
		}
	}
}

// 1.2

func TestQuote(t *testing.T) {
	wantTexts(t, text.Quote, []pair{
		{"", ""},
		{"a=b ", "a=3Db=20"},
		{"a b\tc", "a b\tc"},
		{" ", "=20"},
		{"\t", "=09"},
		{"  ", " =20"},
		{"a\t", "a=09"},
		{"a \r\n", "a =0D=0A"},
		{"\r\n", "=0D=0A"},
		{"!~", "!~"},
		{"\x00\x1f\x7f\x80\xab\xff", "=00=1F=7F=80=AB=FF"},
	})
}

func TestQuoteEachByte(t *testing.T) {
	const hex = "0123456789ABCDEF"
	for c := range 256 {
		b := string([]byte{byte(c)})
		code := "=" + hex[c>>4:c>>4+1] + hex[c&15:c&15+1]
		inside, atEnd := code, code
		if c >= 33 && c <= 126 && c != '=' {
			inside, atEnd = b, b
		}
		if c == ' ' || c == '\t' {
			inside = b
		}
		wantTexts(t, text.Quote, []pair{{b + "a", inside + "a"}, {"a" + b, "a" + atEnd}, {b, atEnd}})
	}
}

func TestQuoteCutsLines(t *testing.T) {
	const cut = "=\r\n"
	wantTexts(t, text.Quote, []pair{
		{x(75), x(75)},
		{x(76), x(76)},
		{x(77), x(75) + cut + x(2)},
		{x(150), x(75) + cut + x(75)},
		{x(151), x(75) + cut + x(76)},
		{x(152), x(75) + cut + x(75) + cut + x(2)},
		{x(72) + "==", x(72) + "=3D" + cut + "=3D"},
		{x(72) + "=x", x(72) + "=3Dx"},
		{x(73) + "=", x(73) + "=3D"},
		{x(74) + "=", x(74) + cut + "=3D"},
		{x(73) + "=x", x(73) + cut + "=3Dx"},
		{x(74) + " x", x(74) + " x"},
		{x(74) + " xx", x(74) + " " + cut + "xx"},
		{x(75) + " x", x(75) + cut + " x"},
		{x(73) + " ", x(73) + "=20"},
		{x(74) + " ", x(74) + cut + "=20"},
		{x(75) + "\t", x(75) + cut + "=09"},
		{x(75) + "\r\n", x(75) + cut + "=0D=0A"},
		{strings.Repeat("=", 26), strings.Repeat("=3D", 25) + cut + "=3D"},
	})
}

func TestQuotedComesThroughEverywhere(t *testing.T) {
	for _, s := range samples(240) {
		for _, line := range strings.Split(text.Quote(s), "\r\n") {
			if len(line) > api.MaxLine || strings.TrimRight(line, " \t") != line {
				t.Errorf("%q: a line %q", s, line)
			}
			for i := range len(line) {
				if c := line[i]; c != '\t' && (c < 32 || c > 126) {
					t.Errorf("%q: a byte %d", s, c)
				}
			}
		}
	}
}

// 1.3

func TestUnquote(t *testing.T) {
	wantReads(t, text.Unquote, []pair{
		{"", ""},
		{"a=3Db=20", "a=b "},
		{"a b\tc", "a b\tc"},
		{"=00=1f=7F=80=aB=Ff", "\x00\x1f\x7f\x80\xab\xff"},
		{"=3D3D", "=3D"},
		{"=0D=0A", "\r\n"},
		{"\r\n", "\r\n"},
		{"\r\n\r\n", "\r\n\r\n"},
		{"a\r\nb", "a\r\nb"},
		{"a\r\nb\r\n", "a\r\nb\r\n"},
		{"a \t\r\n b\t ", "a\r\n b"},
		{" \t ", ""},
		{"a=20 \t\r\n", "a \r\n"},
		{"a=", "a"},
		{"=", ""},
		{"a= \t", "a"},
		{"a=\r\n", "a"},
		{"a=\r\nb", "ab"},
		{"a= \t\r\nb", "ab"},
		{"a \t=\r\n b", "a \t b"},
		{"a =\r\n \r\nb", "a \r\nb"},
		{"a=\r\n=\r\nb", "ab"},
		{"a=\r\n\r\nb", "a\r\nb"},
		{"=3D=\r\n=3d=", "=="},
		{x(200), x(200)},
	})
}

func TestUnquoteWrong(t *testing.T) {
	wantErrForm(t, text.Unquote, []string{
		"=4", "=4 ", "a=4\r\nb", "=g0", "=0g", "=G0", "=0G", "= 41", "=4 1", "=-1", "=+1", "=0x", "=/0", "=:0", "=@0", "=`0",
		"==", "===", "a==\r\nb", "==41", "=4=1", "=4=\r\n1", "==\r\n41", "a= =", "a=b",
		"\r", "\n", "a\rb", "a\nb", "\n\r", "a\r\r\nb", "a\r\n\nb", "a\r", "\r \n", "=\r", "=\n", "a=\nb",
		"\x00", "\x0b", "\x1f", "\x7f", "\x80", "\xff", "a\r\nb\r\n\xc3\xa9",
	})
}

func TestUnquoteEachByte(t *testing.T) {
	for c := range 256 {
		s := string([]byte{'a', byte(c), 'b'})
		if c == '\t' || c >= 32 && c <= 126 && c != '=' {
			wantReads(t, text.Unquote, []pair{{s, s}})
		} else {
			wantErrForm(t, text.Unquote, []string{s})
		}
	}
}

func TestUnquoteDigits(t *testing.T) {
	const hex = "0123456789abcdef"
	small := func(c int) int { return strings.IndexByte(hex, api.Small(string([]byte{byte(c)}))[0]) }
	for c := range 256 {
		first, second := string([]byte{'=', byte(c), '5', '.'}), string([]byte{'=', '5', byte(c), '.'})
		if v := small(c); v >= 0 {
			wantReads(t, text.Unquote, []pair{
				{first, string([]byte{byte(v<<4 | 5), '.'})},
				{second, string([]byte{byte(5<<4 | v), '.'})},
			})
		} else {
			wantErrForm(t, text.Unquote, []string{first, second})
		}
	}
}

// All bytes come through: the first sentence of what is to be true of the whole.

func comesThrough(t *testing.T, b string) {
	t.Helper()
	wantReads(t, text.Unpack, []pair{{text.Pack(b), b}})
	q := text.Quote(b)
	wantReads(t, text.Unquote, []pair{{q, b}})
	// Another reader must see the same bytes, else writer and reader could be wrong alike.
	got, err := io.ReadAll(quotedprintable.NewReader(strings.NewReader(q)))
	if string(got) != b || err != nil {
		t.Errorf("%q: quoted as %q, read elsewhere as %q, %v", b, q, got, err)
	}
}

func TestAllBytesComeThrough(t *testing.T) {
	for _, b := range samples(240) {
		comesThrough(t, b)
	}
	for _, b := range words("a= \t\r\n\x00", 4) {
		comesThrough(t, b)
		for n := 70; n < 78; n++ {
			comesThrough(t, x(n)+b)
		}
	}
}

func FuzzAllBytesComeThrough(f *testing.F) {
	f.Add("a=b ")
	f.Add(x(75) + " \r\n")
	f.Fuzz(func(t *testing.T, b string) { comesThrough(t, b) })
}

// What is read answers bytes or ErrForm alone, whatever it is given.
func FuzzReadEndsWell(f *testing.F) {
	f.Add("TWE=")
	f.Add("a =\r\n=3D=")
	f.Fuzz(func(t *testing.T, s string) {
		for _, read := range []func(string) (string, error){text.Unpack, text.Unquote} {
			if _, err := read(s); err != nil {
				wantErrForm(t, read, []string{s})
			}
		}
	})
}
