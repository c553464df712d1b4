package match

import (
	"strings"

	"manometer/api"
	"manometer/labels"
)

const (
	blank  = " "
	inName = "abcdefghijklmnopqrstuvwxyzABCDEFGHIJKLMNOPQRSTUVWXYZ0123456789_"
)

// sign is what stands for a kind of matchers in a text.
func sign(kind int) string {
	switch kind {
	case api.MtEq:
		return "="
	case api.MtNe:
		return "!="
	case api.MtRe:
		return "=~"
	case api.MtNr:
		return "!~"
	}
	return "?"
}

// Print is the matchers as a text.
func Print(l []api.Matcher) string {
	var text strings.Builder
	if len(l) > 0 && isMetric(l[0]) {
		text.WriteString(l[0].Value)
		l = l[1:]
		if len(l) == 0 {
			return text.String()
		}
	}
	text.WriteByte('{')
	for i, one := range l {
		if i > 0 {
			text.WriteString(", ")
		}
		text.WriteString(one.Name)
		text.WriteString(sign(one.Kind))
		text.WriteString(labels.Quote(one.Value))
	}
	text.WriteByte('}')
	return text.String()
}

// isMetric tells whether a matcher asks for a metric whose name may stand ahead of the others as it is.
func isMetric(m api.Matcher) bool {
	return m.Kind == api.MtEq && m.Name == api.NameLabel && labels.Named(m.Value)
}

// What is looked for in a text, in the order in which it first stands there.
const (
	theMetric = iota // a metric's name, or {
	theOpen          // {, or the end
	theName          // a matcher's name, or }
	theSign          // its sign
	theValue         // its value
	theNext          // a comma, or }
	theEnd           // nothing any more
)

// Parse is the matchers of a text as Print has it, or with other blanks, or with a comma at its end.
func Parse(s string) ([]api.Matcher, api.Errno) {
	list, is := read(s)
	if !is {
		return nil, api.ErrForm
	}
	if err := Right(list); err != api.OK {
		return nil, err
	}
	return list, api.OK
}

// read is the matchers of s, be they right or not, if s has the form of such a text.
func read(s string) ([]api.Matcher, bool) {
	t := scan{rest: s}
	look := theMetric
text:
	for {
		t.rest = strings.TrimLeft(t.rest, blank)
		switch {
		case look == theMetric && t.metric():
			look = theOpen
		case look <= theOpen && t.mark("{"):
			look = theName
		case look == theName && t.name():
			look = theSign
		case look == theSign && t.sign():
			look = theValue
		case look == theValue && t.value():
			look = theNext
		case look == theNext && t.mark(","):
			look = theName
		case (look == theNext || look == theName) && t.mark("}"):
			look = theEnd
		case (look == theEnd || look == theOpen) && t.rest == "":
			return t.list, true
		default: // the text breaks here: it goes on with none of what may stand
			break text
		}
	}
	return nil, false
}

// scan is what is left of a text, and the matchers that it had so far, of which the last one may not be whole yet.
type scan struct {
	rest string
	list []api.Matcher
}

// cut takes so many bytes away from what is left.
func (t *scan) cut(n int) string {
	part := t.rest[:n]
	t.rest = t.rest[n:]
	return part
}

// last is the matcher that is being read.
func (t *scan) last() *api.Matcher { return &t.list[len(t.list)-1] }

// mark takes a mark away, if that is next.
func (t *scan) mark(mark string) bool {
	rest, is := strings.CutPrefix(t.rest, mark)
	t.rest = rest
	return is
}

// word is how many bytes that may stand in a name are next, be they one or not.
func (t *scan) word() int { return len(t.rest) - len(strings.TrimLeft(t.rest, inName)) }

// metric takes a metric's name away, if one is next; it may be longer than a label's.
func (t *scan) metric() bool {
	n := t.word()
	if n == 0 || !labels.Named(t.rest[:1]) {
		return false
	}
	t.list = append(t.list, api.Matcher{Kind: api.MtEq, Name: api.NameLabel, Value: t.cut(n)})
	return true
}

// name takes away what stands for a matcher's name, if such is next.
func (t *scan) name() bool {
	n := t.word()
	if n == 0 {
		return false
	}
	t.list = append(t.list, api.Matcher{Name: t.cut(n)})
	return true
}

// sign takes a sign away, if one is next: from the last kind down, for = is what =~ begins with.
func (t *scan) sign() bool {
	for kind := api.MtNr; kind >= api.MtEq; kind-- {
		if t.mark(sign(kind)) {
			t.last().Kind = kind
			return true
		}
	}
	return false
}

// value takes a value between quotes away, if one is next.
func (t *scan) value() bool {
	value, n, err := labels.Unquote(t.rest)
	if err != api.OK {
		return false
	}
	t.cut(n)
	t.last().Value = value
	return true
}
