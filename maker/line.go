package maker

import (
	"strings"

	"gamp/api"
)

// reply does a line and returns its reply.
func (m *Maker) reply(line string) string {
	tried, isTry := strings.CutPrefix(line, "try ")
	switch {
	case len(line) > api.MaxLine:
		return refusal(api.ErrLong)
	case line == "" || line[0] == '#':
		return ""
	case isTry:
		return m.try(tried)
	}
	return m.obey(line)
}

// try does a line on a copy of the workshop.
func (m *Maker) try(line string) string {
	first, _, _ := strings.Cut(line, " ")
	if line == "" || first == "try" {
		return refusal(api.ErrForm)
	}
	return m.clone().reply(line)
}

// obey does the command of a line.
func (m *Maker) obey(line string) string {
	do, in, ok := find(strings.Split(line, " "))
	if !ok {
		return refusal(api.ErrForm)
	}
	answer, e := do(m, in)
	if e != api.OK {
		return refusal(e)
	}
	return answer
}

// find returns what the command of a line does, and what it is given. Where one name has two commands, the words behind it tell which one is meant.
func find(words []string) (action, input, bool) {
	all := commands()
	i := 0
search:
	if i == len(all) {
		return nil, input{}, false
	}
	if all[i].name == words[0] {
		in, ok := all[i].read(words[1:])
		if ok {
			return all[i].do, in, true
		}
	}
	i++
	goto search
}
