// Package text: bytes as letters that come through everywhere.
package text

import (
	"strings"

	"bindery/api"
)

const (
	letters = "ABCDEFGHIJKLMNOPQRSTUVWXYZabcdefghijklmnopqrstuvwxyz0123456789+/"
	digits  = "0123456789ABCDEF"
	lineEnd = "\r\n"
	blanks  = " \t"
)

// Pack writes bytes as base64: lines of MaxLine letters at most, CR and LF behind each.
func Pack(b string) (_ string) {
	var l []byte
	for i := range (len(b) + 2) / 3 {
		f := four(b[3*i : min(3*i+3, len(b))])
		l = append(l, f[:]...)
	}
	return inLines(l)
}

// four is one, two or three bytes as four letters; those that no bit of a byte stands in are =.
func four(b string) [4]byte {
	bits := 0
	for i := range 3 {
		bits <<= 8
		if i < len(b) {
			bits |= int(b[i])
		}
	}
	var l [4]byte
	for i := range len(l) {
		l[i] = '='
		if i <= len(b) {
			l[i] = letters[bits>>(18-6*i)&63]
		}
	}
	return l
}

// inLines is letters with CR and LF behind each MaxLine of them, and behind the last one.
func inLines(l []byte) string {
	var out []byte
	for i := range len(l) {
		out = append(out, l[i])
		if (i+1)%api.MaxLine == 0 || i+1 == len(l) {
			out = append(out, lineEnd...)
		}
	}
	return string(out)
}

// Unpack reads base64: CR, LF, blanks and tabs count for nothing; ErrForm: a letter that is none, = but as the last one or two of a multiple of four, or bits that are left and not 0.
func Unpack(s string) (_ string, _ error) {
	l := solid(s)
	if len(l)%4 != 0 {
		return "", api.ErrForm
	}
	b, ok := joined(l[:len(l)-fill(l)])
	if !ok {
		return "", api.ErrForm
	}
	return string(b), nil
}

// solid is a text without what counts for nothing in base64.
func solid(s string) []byte {
	var l []byte
	for i := range len(s) {
		if strings.IndexByte(lineEnd+blanks, s[i]) < 0 {
			l = append(l, s[i])
		}
	}
	return l
}

// fill is how many = stand at the end; never more than two, so that a third one is met as a letter, and is none.
func fill(l []byte) int {
	n := 0
	for n < 2 && n < len(l) && l[len(l)-1-n] == '=' {
		n++
	}
	return n
}

// joined is the bytes that letters have the bits of; false: a letter is none, or a bit that is left over is not 0.
func joined(l []byte) ([]byte, bool) {
	var out []byte
	bits, count := 0, 0
	for i := range len(l) {
		v := strings.IndexByte(letters, l[i])
		if v < 0 {
			return nil, false
		}
		bits, count = bits<<6|v, count+6
		if count >= 8 {
			count -= 8
			out = append(out, byte(bits>>count))
			bits &= 1<<count - 1
		}
	}
	return out, bits == 0
}

// Quote writes bytes as quoted-printable: letters as they are, but =; blanks and tabs too, but as the last byte; all others as = and two of 0 to F; a line is cut by =, CR and LF ahead of what would not stand in it (with room for that =, but behind the last byte).
func Quote(b string) (_ string) {
	var out []byte
	long := 0
	for i := range len(b) {
		last := i == len(b)-1
		w := quoted(b[i], last)
		most := api.MaxLine - 1
		if last {
			most = api.MaxLine
		}
		if long+len(w) > most {
			out = append(out, "="+lineEnd...)
			long = 0
		}
		out = append(out, w...)
		long += len(w)
	}
	return string(out)
}

// quoted is what a byte is written as; a blank does not stand for itself at the end, where it would count for nothing.
func quoted(c byte, last bool) []byte {
	if isLetter(c) || isBlank(c) && !last {
		return []byte{c}
	}
	return []byte{'=', digits[c>>4], digits[c&15]}
}

func isLetter(c byte) bool { return c >= 33 && c <= 126 && c != '=' }

func isBlank(c byte) bool { return c == ' ' || c == '\t' }

// Unquote reads quoted-printable: line by line (each ends in CR and LF, but the last one): blanks and tabs at its end count for nothing; = at its end joins it with the next one (of the last one: nothing); = and two of 0 to F (or f) are a byte; all else as it stands, and CR and LF between lines. ErrForm: another =, or a byte that is no letter, blank, or tab.
func Unquote(s string) (_ string, _ error) {
	var out []byte
	for more := true; more; {
		var line string
		line, s, more = strings.Cut(s, lineEnd)
		line, goesOn := strings.CutSuffix(strings.TrimRight(line, blanks), "=")
		b, ok := unquoted(line)
		if !ok {
			return "", api.ErrForm
		}
		out = append(out, b...)
		if more && !goesOn {
			out = append(out, lineEnd...)
		}
	}
	return string(out), nil
}

// unquoted is the bytes that a line stands for; false: one of it may not stand there.
func unquoted(line string) ([]byte, bool) {
	var out []byte
	var v byte
	due := 0 // digits that a = still waits for
	for i := range len(line) {
		c := line[i]
		switch {
		case due > 0:
			d := digit(c)
			if d < 0 {
				return nil, false
			}
			v = v<<4 | byte(d)
			due--
			if due == 0 {
				out = append(out, v)
			}
		case c == '=':
			v, due = 0, 2
		case isLetter(c) || isBlank(c):
			out = append(out, c)
		default:
			return nil, false
		}
	}
	return out, due == 0
}

// digit is what a digit is worth; below 0: it is none.
func digit(c byte) int {
	if c >= 'a' && c <= 'f' {
		c -= 'a' - 'A'
	}
	return strings.IndexByte(digits, c)
}
