package rex

import (
	"strings"

	"manometer/api"
)

const (
	signs    = `.*+?()[]{}|^$\` // what stands for itself only behind a backslash
	marks    = `-/`             // what may stand behind a backslash, too
	greatest = '}'              // of all that stands for itself behind a backslash
	outside  = `[]^-`           // what stands for itself in a class only behind a backslash, beside that one
)

// What stands where no rune does; nothing takes it.
const (
	end    = -1 // behind the text
	broken = -2 // a byte that belongs to no rune
)

// place is a rune of a text, and at which byte it stands.
type place struct {
	at int
	c  rune
}

// places is the runes of s, and its end.
func places(s string) []place {
	var list []place
	for at, c := range s {
		if c == '\ufffd' && !strings.HasPrefix(s[at:], "\ufffd") {
			c = broken
		}
		list = append(list, place{at, c})
	}
	return append(list, place{len(s), end})
}

// fault is what is wrong with a text, and where; it is what a parser panics with.
type fault struct {
	at  int
	err api.Errno
}

// read is the pattern of s, or its fault.
func read(s string) (r *Rex, wrong fault) {
	defer func() {
		if told := recover(); told != nil {
			r, wrong = nil, told.(fault)
		}
	}()
	p := parser{rest: places(s)}
	whole := p.pattern(0)
	p.must(p.now() == end)
	return &Rex{true, s, p.atoms, whole}, fault{}
}

// parser is what is left of a text, and the atoms of what it has read.
type parser struct {
	rest  []place
	atoms []atom
}

// now is the rune that comes next, or end, or broken.
func (p *parser) now() rune { return p.rest[0].c }

// pass goes past the rune that comes next.
func (p *parser) pass() { p.rest = p.rest[1:] }

// must refuses the rune that comes next, unless it is right.
func (p *parser) must(right bool) {
	if !right {
		p.refuse(api.ErrForm)
	}
}

// refuse leaves the whole text, however deep the parser is in it.
func (p *parser) refuse(err api.Errno) { panic(fault{p.rest[0].at, err}) }

// pattern reads branches, within so many groups, up to what goes on with none.
func (p *parser) pattern(groups int) part {
	all := p.branch(groups)
	for p.now() == '|' {
		p.pass()
		all = either(all, p.branch(groups))
	}
	return all
}

// branch reads pieces, as many as there are.
func (p *parser) branch(groups int) part {
	all := part{empty: true}
	for p.now() != '|' && p.now() != ')' && p.now() != end {
		all = p.join(all, p.piece(groups))
	}
	return all
}

// join matches what a does, and behind it what b does.
func (p *parser) join(a, b part) part {
	p.follow(a.last, b.first)
	all := part{a.first, b.last, a.empty && b.empty}
	if a.empty {
		all.first = all.first.with(b.first)
	}
	if b.empty {
		all.last = all.last.with(a.last)
	}
	return all
}

// follow lets each of next come behind each of these.
func (p *parser) follow(these, next set) {
	for i := range p.atoms {
		if these.has(i) {
			p.atoms[i].next = p.atoms[i].next.with(next)
		}
	}
}

// piece reads an atom, and how often it may come.
func (p *parser) piece(groups int) part {
	one := p.atom(groups)
	switch p.now() {
	case '*':
		one.empty = true
		fallthrough
	case '+':
		p.follow(one.last, one.first)
	case '?':
		one.empty = true
	default:
		return one
	}
	p.pass()
	return one
}

// atom reads an atom.
func (p *parser) atom(groups int) part {
	c := p.now()
	switch c {
	case '(':
		return p.group(groups)
	case '[':
		return p.class()
	case '\\':
		return p.escape()
	case '.':
		p.pass()
		return p.add(atom{turned: true})
	}
	p.must(c >= 0 && !strings.ContainsRune(signs, c))
	p.pass()
	return p.add(atom{spans: []span{{c, c}}})
}

// add is the part that an atom is, behind all atoms ahead.
func (p *parser) add(one atom) part {
	p.atoms = append(p.atoms, one)
	it := only(len(p.atoms) - 1)
	return part{first: it, last: it}
}

// group reads a group.
func (p *parser) group(groups int) part {
	if groups == api.MaxDeep {
		p.refuse(api.ErrDeep)
	}
	p.pass()
	inner := p.pattern(groups + 1)
	p.must(p.now() == ')')
	p.pass()
	return inner
}

// escape reads an escape that is an atom.
func (p *parser) escape() part {
	if list := p.many(); list != nil {
		return p.add(atom{spans: list})
	}
	c := p.escaped(0)
	return p.add(atom{spans: []span{{c, c}}})
}

// many reads an escape of several runes, if one comes next.
func (p *parser) many() []span {
	if p.now() != '\\' {
		return nil
	}
	list := several(p.rest[1].c) // there is one: the end, at least
	if list != nil {
		p.pass()
		p.pass()
	}
	return list
}

// escaped reads an escape of a rune that is not below least. Where none is, the backslash itself is at fault.
func (p *parser) escaped(least rune) rune {
	p.must(least <= greatest)
	p.pass()
	c := p.now()
	p.must(c >= least && strings.ContainsRune(signs+marks, c))
	p.pass()
	return c
}

// class reads a class.
func (p *parser) class() part {
	p.pass()
	one := atom{turned: p.now() == '^'}
	if one.turned {
		p.pass()
	}
	one.spans = p.member()
	for p.now() != ']' {
		one.spans = append(one.spans, p.member()...)
	}
	p.pass()
	return p.add(one)
}

// member reads a member of a class.
func (p *parser) member() []span {
	if list := p.many(); list != nil {
		return list
	}
	lo := p.single(0)
	hi := lo
	if p.now() == '-' {
		p.pass()
		hi = p.single(lo)
	}
	return []span{{lo, hi}}
}

// single reads a single rune of a class that is not below least.
func (p *parser) single(least rune) rune {
	c := p.now()
	if c == '\\' {
		return p.escaped(least)
	}
	p.must(c >= least && !strings.ContainsRune(outside, c))
	p.pass()
	return c
}
