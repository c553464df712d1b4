package postings_test

import (
	"fmt"
	"slices"
	"strings"
	"testing"

	"manometer/api"
	"manometer/labels"
	"manometer/match"
	"manometer/postings"
	"manometer/sample"
)

func eq(name, value string) api.Matcher { return api.Matcher{Kind: api.MtEq, Name: name, Value: value} }
func ne(name, value string) api.Matcher { return api.Matcher{Kind: api.MtNe, Name: name, Value: value} }
func re(name, value string) api.Matcher { return api.Matcher{Kind: api.MtRe, Name: name, Value: value} }
func nr(name, value string) api.Matcher { return api.Matcher{Kind: api.MtNr, Name: name, Value: value} }

func list(l ...api.Matcher) []api.Matcher { return l }

func nums(l ...uint64) []uint64 { return l }

// of is the labels of names and values that stand by turns.
func of(parts ...string) api.Labels {
	var l api.Labels
	for i := 0; i < len(parts); i += 2 {
		l = append(l, api.Label{Name: parts[i], Value: parts[i+1]})
	}
	return l
}

// show is what stands for matchers where a test fails.
func show(l []api.Matcher) string {
	var s strings.Builder
	for _, m := range l[:min(len(l), 20)] {
		fmt.Fprintf(&s, "[%d %.70q %.70q]", m.Kind, m.Name, m.Value)
	}
	return s.String()
}

// series is one that is put into an index.
type series struct {
	ref uint64
	set api.Labels
}

// plain is an index word by word: its series, gone through by each call.
type plain []series

func (p plain) labels(ref uint64) (api.Labels, bool) {
	for _, s := range p {
		if s.ref == ref {
			return s.set, true
		}
	}
	return nil, false
}

func (p plain) ref(l api.Labels) (uint64, bool) {
	for _, s := range p {
		if labels.Same(s.set, l) {
			return s.ref, true
		}
	}
	return 0, false
}

func (p *plain) add(ref uint64, l api.Labels) api.Errno {
	if err := labels.Right(l); err != api.OK {
		return err
	}
	if _, there := p.labels(ref); there {
		return api.ErrThere
	}
	if _, there := p.ref(l); there {
		return api.ErrThere
	}
	if len(*p) >= 4096 {
		return api.ErrFull
	}
	*p = append(slices.Clone(*p), series{ref, slices.Clone(l)})
	return api.OK
}

func (p *plain) cut(ref uint64) api.Errno {
	if _, there := p.labels(ref); !there {
		return api.ErrRef
	}
	*p = slices.DeleteFunc(slices.Clone(*p), func(s series) bool { return s.ref == ref })
	return api.OK
}

func (p plain) selected(m []api.Matcher) ([]uint64, api.Errno) {
	if err := match.Right(m); err != api.OK {
		return nil, err
	}
	var refs []uint64
	for _, s := range p {
		if match.All(m, s.set) {
			refs = append(refs, s.ref)
		}
	}
	slices.Sort(refs)
	return refs, api.OK
}

// each is the texts that pick tells of all labels of all series, rising, each once.
func (p plain) each(pick func(api.Label) (string, bool)) []string {
	var texts []string
	for _, s := range p {
		for _, one := range s.set {
			if text, is := pick(one); is && !slices.Contains(texts, text) {
				texts = append(texts, text)
			}
		}
	}
	slices.Sort(texts)
	return texts
}

func (p plain) names() []string {
	return p.each(func(one api.Label) (string, bool) { return one.Name, true })
}

func (p plain) values(name string) []string {
	return p.each(func(one api.Label) (string, bool) { return one.Value, one.Name == name })
}

// indexOf is an index of these series.
func indexOf(t *testing.T, p plain) *postings.Index {
	t.Helper()
	x := postings.New()
	for _, s := range p {
		if err := x.Add(s.ref, s.set); err != api.OK {
			t.Fatalf("Add of %d %v: %d", s.ref, s.set, err)
		}
	}
	return x
}

// mustSelect asks that m selects these numbers.
func mustSelect(t *testing.T, x *postings.Index, m []api.Matcher, want []uint64) {
	t.Helper()
	if got, err := x.Select(m); err != api.OK || !slices.Equal(got, want) {
		t.Fatalf("Select of %s: %v, %d, want %v", show(m), got, err, want)
	}
}

// mustBe asks x all that can be asked of it: of the series that it has, and of others.
func mustBe(t *testing.T, x *postings.Index, p plain, asked ...[]api.Matcher) {
	t.Helper()
	if x.Len() != len(p) {
		t.Fatalf("Len: %d, want %d", x.Len(), len(p))
	}
	if got, want := x.Names(), p.names(); !slices.Equal(got, want) {
		t.Fatalf("Names: %q, want %q", got, want)
	}
	for _, name := range append(p.names(), "", "a", "b", "none", "__name__", "x", "a\xff") {
		if got, want := x.Values(name), p.values(name); !slices.Equal(got, want) {
			t.Fatalf("Values of %q: %q, want %q", name, got, want)
		}
	}
	for _, ref := range append(someRefs(), p.refs()...) {
		got, is := x.Labels(ref)
		if want, there := p.labels(ref); is != there || !labels.Same(got, want) {
			t.Fatalf("Labels of %d: %v, %v, want %v, %v", ref, got, is, want, there)
		}
	}
	for _, l := range append(someSets(), p.sets()...) {
		got, is := x.Ref(l)
		if want, there := p.ref(l); is != there || got != want {
			t.Fatalf("Ref of %v: %d, %v, want %d, %v", l, got, is, want, there)
		}
	}
	for _, m := range asked {
		got, err := x.Select(m)
		if want, wrong := p.selected(m); err != wrong || !slices.Equal(got, want) {
			t.Fatalf("Select of %s: %v, %d, want %v, %d", show(m), got, err, want, wrong)
		}
	}
}

func (p plain) refs() []uint64 {
	var l []uint64
	for _, s := range p {
		l = append(l, s.ref)
	}
	return l
}

func (p plain) sets() []api.Labels {
	var l []api.Labels
	for _, s := range p {
		l = append(l, s.set)
	}
	return l
}

// high is a number whose highest bit is set: as one with a sign it would be below 0.
const high = 1 << 63

// someRefs are numbers of series, so few that they often meet.
func someRefs() []uint64 {
	return nums(0, 1, 2, 5, 10, 11, 4095, 4096, 4097, 1<<32-1, 1<<32, 1<<32+1, high-1, high, high+1, 1<<64-2, 1<<64-1)
}

// someSets are right labels, of which some are the beginnings of others, or say the same otherwise cut.
func someSets() []api.Labels {
	sets := []api.Labels{nil, of("ab", "c"), of("a", "bc"), of("a", "b", "c", "d"), of("a", `b", c="d`), of("__name__", "up"), of("__name__", "up", "a", "x"), of("__name__", "down", "a", "x"), of("a", "x", "b", "y", "c", "z")}
	for _, a := range []string{"", "x", "y", "up", "x\x00", "é", "Z"} {
		for _, b := range []string{"", "x", "y"} {
			l, _ := labels.Make(of("a", a, "b", b))
			sets = append(sets, l)
		}
	}
	return sets
}

// wrongSets are labels that no series may have, and what Add says of them.
func wrongSets() map[api.Errno][]api.Labels {
	var long api.Labels
	for i := range api.MaxLabels + 1 {
		long = append(long, api.Label{Name: "n" + string(rune('a'+i)), Value: "x"})
	}
	return map[api.Errno][]api.Labels{
		api.ErrLong:  {long, append(of("", ""), long...), make(api.Labels, 1<<16)},
		api.ErrName:  {of("", "x"), of("1", "x"), of("a", "x", "b-", ""), of("a", "x", "é", "x"), of(strings.Repeat("n", 65), "x")},
		api.ErrValue: {of("a", ""), of("a", "\xff"), of("a", "x", "b", ""), of("a", strings.Repeat("v", 129)), of("b", "x", "a", "")},
		api.ErrOrder: {of("b", "x", "a", "x"), of("a", "x", "a", "x"), of("a", "x", "a", "y"), of("a", "x", "c", "y", "b", "z")},
	}
}

// someAsked are matchers by themselves: of all kinds, of names that series have and of such as none has.
func someAsked() []api.Matcher {
	var l []api.Matcher
	for _, name := range []string{"a", "b", "__name__", "none"} {
		for _, value := range []string{"", "x", "y", "nothing"} {
			l = append(l, eq(name, value), ne(name, value))
		}
		for _, form := range []string{"", "x", "x|y", ".*", ".+", "(|x)", "[^x]*", "[^x]+", "x?", "..", "nothing"} {
			l = append(l, re(name, form), nr(name, form))
		}
	}
	return l
}

// someSelectors are lists of one to four matchers that look like any; most are right.
func someSelectors(d *sample.Draw, count int) [][]api.Matcher {
	some := someAsked()
	var lists [][]api.Matcher
	for range count {
		var l []api.Matcher
		for range 1 + d.Below(4) {
			l = append(l, some[d.Below(len(some))])
		}
		lists = append(lists, l)
	}
	return lists
}

// somePlain are series of all of someSets, with numbers that look like any.
func somePlain(t *testing.T, d *sample.Draw) plain {
	t.Helper()
	var p plain
	for i, l := range someSets() {
		ref := d.Next()
		if i%2 == 0 {
			ref = uint64(d.Below(1000))
		}
		p.add(ref, l)
	}
	if len(p) < 20 {
		t.Fatal("there are few series", len(p))
	}
	return p
}

// shuffled is l in an order that looks like any.
func shuffled[E any](d *sample.Draw, l []E) []E {
	l = slices.Clone(l)
	for i := range l {
		j := d.Below(i + 1)
		l[i], l[j] = l[j], l[i]
	}
	return l
}
