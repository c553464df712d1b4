package labels

import (
	"strings"

	"manometer/api"
)

const blank = " "

// Print is the labels as a text.
func Print(l api.Labels) string {
	var text strings.Builder
	text.WriteByte('{')
	for i, one := range l {
		if i > 0 {
			text.WriteString(", ")
		}
		text.WriteString(one.Name)
		text.WriteByte('=')
		text.WriteString(Quote(one.Value))
	}
	text.WriteByte('}')
	return text.String()
}

// Parse is the labels of a text as Print has it, or with other blanks, in another order, with a comma at its end.
func Parse(s string) (api.Labels, api.Errno) {
	rest, more := behind(s, "{")
	if !more {
		return nil, api.ErrForm
	}
	var list api.Labels
text:
	for more {
		one, after, is := first(rest)
		switch {
		case is:
			list = append(list, one)
			rest, more = behind(after, ",")
		default: // the text breaks here, or the list ends without a label, or behind a comma
			break text
		}
	}
	rest, closed := behind(rest, "}")
	if !closed || rest != "" {
		return nil, api.ErrForm
	}
	return Make(list)
}

// first is the label that s begins with, and what stands behind it, if s begins with one.
func first(s string) (api.Label, string, bool) {
	size := nameBytes(s)
	rest, is := behind(s[size:], "=")
	if size == 0 || !is {
		return api.Label{}, "", false
	}
	value, n, err := Unquote(rest)
	if err != api.OK {
		return api.Label{}, "", false
	}
	return api.Label{Name: s[:size], Value: value}, rest[n:], true
}

// nameBytes is how many bytes s begins with that may stand in a name, be it one or not.
func nameBytes(s string) int {
	for i, r := range s {
		if !inName(r) {
			return i
		}
	}
	return len(s)
}

// behind is what stands behind the mark that s begins with, or s, if it begins with another; blanks around the mark, or ahead of s, count for nothing.
func behind(s, mark string) (string, bool) {
	rest, is := strings.CutPrefix(strings.TrimLeft(s, blank), mark)
	return strings.TrimLeft(rest, blank), is
}

// Quote is s between quotes, with a \ ahead of what would end or break the text there.
func Quote(s string) string {
	var text strings.Builder
	text.Grow(len(s) + 2)
	text.WriteByte('"')
	for i := range len(s) { // by bytes, for s may be no UTF-8
		switch s[i] {
		case '\n':
			text.WriteString(`\n`)
		case '"', '\\':
			text.WriteByte('\\')
			text.WriteByte(s[i])
		default:
			text.WriteByte(s[i])
		}
	}
	text.WriteByte('"')
	return text.String()
}

// Unquote is the text that s begins with between quotes, and how many bytes of s it takes with these.
func Unquote(s string) (string, int, api.Errno) {
	if s != "" && s[0] != '"' {
		return "", 0, api.ErrForm
	}
	var text strings.Builder
quoted:
	for at := 1; at < len(s); at++ {
		switch s[at] {
		case '"':
			return text.String(), at + 1, api.OK
		case '\n':
			return "", 0, api.ErrForm
		case '\\':
			at++
			if at == len(s) {
				break quoted
			}
			c, is := meant(s[at])
			if !is {
				return "", 0, api.ErrForm
			}
			text.WriteByte(c)
		default:
			text.WriteByte(s[at])
		}
	}
	return "", 0, api.ErrShort
}

// meant is the byte that c stands for behind a \, if it may stand there.
func meant(c byte) (byte, bool) {
	switch c {
	case '"', '\\':
		return c, true
	case 'n':
		return '\n', true
	}
	return 0, false
}
