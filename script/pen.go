package script

import (
	"slices"
	"strconv"
	"strings"

	"sharedhearth/api"
)

// pen goes through a line, word by word, and writes or reads each one as its two ways have it. How lines look is said once for both, so that what is written can be read.
type pen struct {
	name   func(kind *int, names []string) api.Errno
	number func(n *int) api.Errno
}

// stepNames are by kinds. No kind is 0: its place is empty.
func stepNames() []string {
	return []string{
		api.StepOp:    "op",
		api.StepGo:    "go",
		api.StepDrop:  "drop",
		api.StepTwice: "twice",
		api.StepSpoil: "spoil",
		api.StepTimer: "timer",
	}
}

// opNames are by kinds, as stepNames are.
func opNames() []string {
	return []string{
		api.OpLoad:  "load",
		api.OpStore: "store",
		api.OpAdd:   "add",
		api.OpEvict: "evict",
	}
}

// step needs no kind yet: a pen that reads learns it from the first word.
func (p pen) step(s *api.Step) api.Errno {
	if err := p.name(&s.Kind, stepNames()); err != api.OK {
		return err
	}
	switch s.Kind {
	case api.StepOp:
		return p.operation(&s.Node, &s.Op)
	case api.StepSpoil:
		return p.numbers(&s.N, &s.Bit)
	case api.StepTimer:
		return p.number(&s.Node)
	}
	return p.number(&s.N)
}

func (p pen) operation(node *int, o *api.Op) api.Errno {
	if err := p.number(node); err != api.OK {
		return err
	}
	if err := p.name(&o.Kind, opNames()); err != api.OK {
		return err
	}
	if o.Kind == api.OpStore || o.Kind == api.OpAdd {
		return p.numbers(&o.Line, &o.Value)
	}
	return p.number(&o.Line)
}

func (p pen) numbers(l ...*int) api.Errno {
	for _, n := range l {
		if err := p.number(n); err != api.OK {
			return err
		}
	}
	return api.OK
}

// writer is a pen that writes; text is what it has written.
func writer() (p pen, text func() string) {
	var written []string
	name := func(kind *int, names []string) api.Errno {
		if *kind < 1 || *kind >= len(names) {
			return api.ErrKind
		}
		written = append(written, names[*kind])
		return api.OK
	}
	number := func(n *int) api.Errno {
		written = append(written, strconv.Itoa(*n))
		return api.OK
	}
	return pen{name: name, number: number}, func() string { return strings.Join(written, " ") }
}

// reader is a pen that reads the words which next hands out.
func reader(next func() (string, bool)) pen {
	name := func(kind *int, names []string) api.Errno {
		word, ok := next()
		if !ok {
			return api.ErrForm
		}
		at := slices.Index(names, word)
		// An empty word stands at 0, and is no kind's either.
		if at < 1 {
			return api.ErrKind
		}
		*kind = at
		return api.OK
	}
	number := func(n *int) api.Errno {
		word, ok := next()
		was, err := strconv.Atoi(word)
		// Atoi takes more than is ever written: a plus, needless noughts, a nought below 0.
		if !ok || err != nil || strconv.Itoa(was) != word {
			return api.ErrForm
		}
		*n = was
		return api.OK
	}
	return pen{name: name, number: number}
}

// words hands out line's words, one a call, and false when none is left. They are not cut ahead: a line may have far more than any step.
func words(line string) func() (string, bool) {
	rest, left := line, true
	return func() (string, bool) {
		if !left {
			return "", false
		}
		var word string
		word, rest, left = strings.Cut(rest, " ")
		return word, true
	}
}
