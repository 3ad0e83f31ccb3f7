package catch

import (
	"strings"

	"gamp/api"
)

// pattern is a rule that has been read.
type pattern struct {
	atoms atoms
	side  side
}

// read returns a rule, or why it is refused.
func read(rule string) (pattern, api.Errno) {
	if len(rule) > api.MaxRule {
		return pattern{}, api.ErrLong
	}
	r := reader{rest: rule, atoms: atoms{next: []set{0}}}
	s := r.rule()
	if r.wrong || r.rest != "" {
		return pattern{}, api.ErrForm
	}
	if len(r.atoms.next)-1 > api.MaxAtoms {
		return pattern{}, api.ErrLong
	}
	return pattern{r.atoms, s}, api.OK
}

// allows reports whether the rule allows a label.
func (p pattern) allows(label string) bool {
	places := before
	for i := range len(label) {
		places = p.atoms.after(places, number(label[i]))
	}
	return p.side.holds(places)
}

// reader reads a rule from its beginning on. Once it is wrong, what it returns means nothing.
type reader struct {
	rest  string
	wrong bool
	atoms atoms
}

// takes goes on if the rest begins with a sign.
func (r *reader) takes(sign string) bool {
	rest, found := strings.CutPrefix(r.rest, sign)
	r.rest = rest
	return found
}

// needs goes on, or the rule is wrong.
func (r *reader) needs(sign string) {
	if !r.takes(sign) {
		r.wrong = true
	}
}

// rule reads a RULE, and so do both, side, regex, branch, piece and atom what the grammar calls by these names.
func (r *reader) rule() side {
	sides := []side{r.both()}
	for r.takes("/") {
		sides = append(sides, r.both())
	}
	return joined(some, sides...)
}

func (r *reader) both() side {
	sides := []side{r.side()}
	for r.takes("&") {
		sides = append(sides, r.side())
	}
	return joined(all, sides...)
}

func (r *reader) side() side {
	if r.takes("!") {
		return opposite(r.side())
	}
	if r.takes("{") {
		s := r.rule()
		r.needs("}")
		return s
	}
	// The place before all of the rule is like an atom that every label begins with.
	regex := r.regex()
	whole := r.atoms.join(part{first: before, last: before}, regex)
	return side{kind: one, last: whole.last}
}

func (r *reader) regex() part {
	branches := []part{r.branch()}
	for r.takes("|") {
		branches = append(branches, r.branch())
	}
	return r.atoms.either(branches...)
}

func (r *reader) branch() part {
	pieces := []part{r.piece()}
	for r.rest != "" && strings.IndexByte(".[("+letters, r.rest[0]) >= 0 {
		pieces = append(pieces, r.piece())
	}
	return r.atoms.join(pieces...)
}

func (r *reader) piece() part {
	p := r.atom()
	for {
		switch {
		case r.takes("*"):
			p = r.atoms.again(p)
			p.empty = true
		case r.takes("+"):
			p = r.atoms.again(p)
		case r.takes("?"):
			p.empty = true
		default:
			return p
		}
	}
}

func (r *reader) atom() part {
	switch {
	case r.takes("."):
		return r.atoms.add(letters)
	case r.takes("["):
		class := r.class()
		return r.atoms.add(class)
	case r.takes("()"):
		return r.atoms.join()
	case r.takes("("):
		p := r.regex()
		r.needs(")")
		return p
	}
	letter := r.letter()
	if letter == "" {
		r.wrong = true
	}
	return r.atoms.add(letter)
}

// class reads the rest of a class, and returns its letters.
func (r *reader) class() string {
	found := ""
	for letter := r.letter(); letter != ""; letter = r.letter() {
		if strings.Contains(found, letter) {
			r.wrong = true
		}
		found += letter
	}
	r.needs("]")
	return found
}

// letter reads a letter, if there is one.
func (r *reader) letter() string {
	if r.rest == "" || !isLetter(r.rest[0]) {
		return ""
	}
	letter := r.rest[:1]
	r.rest = r.rest[1:]
	return letter
}
