package check

import "sharedhearth/api"

// nobody is the Owner of a line that no core has alone.
const nobody = -1

// each is whether holds is so of every line of every core.
func each(x api.Chip, holds func(core, at int, l api.Line) bool) bool {
	for core, c := range x.Cores {
		for at, l := range c.Lines {
			if !holds(core, at, l) {
				return false
			}
		}
	}
	return true
}

// holders is how many cores have the line, as a copy or alone.
func holders(x api.Chip, at int) int {
	n := 0
	for core := range x.Cores {
		if l, ok := coreLine(x, core, at); ok && (l.State == api.Copy || l.State == api.Alone) {
			n++
		}
	}
	return n
}

// coreLine is that line of that core, if there are both: a chip that steps did not make may lack either.
func coreLine(x api.Chip, core, at int) (api.Line, bool) {
	if core < 0 || core >= len(x.Cores) {
		return api.Line{}, false
	}
	lines := x.Cores[core].Lines
	if at < 0 || at >= len(lines) {
		return api.Line{}, false
	}
	return lines[at], true
}

// entry is the home's of that line. Of a line that is not at home, which steps do not make, it is as one that nobody ever asked for.
func entry(x api.Chip, at int) api.Entry {
	if at < 0 || at >= len(x.Home) {
		return api.Entry{Owner: nobody}
	}
	return x.Home[at]
}

// last is the last serial of that core's that was taken up: none yet, if it is not written down.
func last(e api.Entry, core int) int {
	if core >= len(e.Last) {
		return 0
	}
	return e.Last[core]
}

// keeps is whether the line's value is with its core. What was given back is so only until the home has taken it, which may be ahead of the core's hearing of it.
func keeps(l api.Line, taken int) bool {
	return l.State == api.Alone || l.State == api.Leaving && l.Serial > taken
}

// knows is whether the home has it right what the core has. Whom it grants the line to it will know only when the thanks come.
func knows(e api.Entry, core int, l api.Line) bool {
	if e.Phase == api.Granting && e.For == core && l.Seen == e.Turn {
		return true
	}
	switch l.State {
	case api.Alone:
		return e.Owner == core
	case api.Copy:
		return e.Owner == core || e.Sharers&(1<<core) != 0
	}
	return true
}
