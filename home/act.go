package home

import (
	"math/bits"

	"sharedhearth/api"
)

// act is what the home does with one of its lines: that as it is by now, and what came of it.
type act struct {
	id, at int
	line   api.Entry
	said   []api.Msg
}

// start looks at line at of l, which must be there.
func start(l []api.Entry, id, at int) act {
	return act{id: id, at: at, line: ownLine(l[at])}
}

// home is l, from which a started, as a has left it.
func (a *act) home(l []api.Entry) []api.Entry {
	out := Own(l)
	out[a.at] = a.line
	return out
}

// takeUp begins a turn for the core that asks. What is not above Last was taken up already: it is old, or there twice.
func (a *act) takeUp(m api.Msg) {
	if a.line.Phase != api.Idle || m.Serial <= a.line.Last[m.From] || a.line.Turn >= api.MaxNumber {
		return
	}
	a.line.Last[m.From] = m.Serial
	a.line.For, a.line.Serial = m.From, m.Serial
	a.line.Alone = m.Kind == api.MsgGetX
	a.line.Turn++
	a.next()
}

// takeBack answers also what is old: else the core would give it back for ever, if the answer was lost.
func (a *act) takeBack(m api.Msg) {
	if a.line.Phase != api.Idle {
		return
	}
	if m.Serial > a.line.Last[m.From] {
		a.line.Last[m.From] = m.Serial
		if a.line.Owner == m.From {
			a.line.Value, a.line.Owner = m.Value, nobody
		}
	}
	a.say(api.Msg{Kind: api.MsgTaken, To: m.From, Serial: m.Serial})
}

func (a *act) fetched(m api.Msg) {
	if !a.awaits(m, api.Fetching) || m.From != a.line.Owner {
		return
	}
	a.line.Value = m.Value
	if !a.line.Alone {
		a.line.Sharers = with(a.line.Sharers, m.From)
	}
	a.line.Owner = nobody
	a.next()
}

func (a *act) cleared(m api.Msg) {
	if !a.awaits(m, api.Clearing) || !has(a.line.Need, m.From) {
		return
	}
	a.line.Need = without(a.line.Need, m.From)
	a.line.Sharers = without(a.line.Sharers, m.From)
	if a.line.Need == 0 {
		a.next()
	}
}

func (a *act) granted(m api.Msg) {
	if !a.awaits(m, api.Granting) || m.From != a.line.For {
		return
	}
	if a.line.Alone {
		a.line.Owner, a.line.Sharers = m.From, 0
	} else {
		a.line.Sharers = with(a.line.Sharers, m.From)
	}
	a.line.Phase = api.Idle
	a.line.For, a.line.Serial, a.line.Alone = 0, 0, false
}

// awaits is whether m is of the turn that the line is in, and that is in the phase which such a message ends.
func (a *act) awaits(m api.Msg, phase int) bool {
	return a.line.Phase == phase && a.line.Turn == m.Turn
}

func (a *act) next() {
	others := without(a.line.Sharers, a.line.For)
	a.line.Need = 0
	switch {
	case a.line.Owner >= 0:
		a.line.Phase = api.Fetching
	case a.line.Alone && others != 0:
		a.line.Phase, a.line.Need = api.Clearing, others
	default:
		a.line.Phase = api.Granting
	}
	a.speak()
}

// speak says what belongs to the line's phase, whether it is new, or said again.
func (a *act) speak() {
	switch a.line.Phase {
	case api.Fetching:
		a.sayInTurn(api.Msg{Kind: fetch(a.line.Alone), To: a.line.Owner})
	case api.Clearing:
		for core := range bits.UintSize {
			if has(a.line.Need, core) {
				a.sayInTurn(api.Msg{Kind: api.MsgInv, To: core})
			}
		}
	case api.Granting:
		a.sayInTurn(api.Msg{Kind: api.MsgGrant, To: a.line.For, Serial: a.line.Serial, Value: a.line.Value, Alone: a.line.Alone})
	}
}

// fetch is how a line is asked for of its owner: who will not be alone leaves it a copy.
func fetch(alone bool) int {
	if alone {
		return api.MsgFetchX
	}
	return api.MsgFetchS
}

func (a *act) sayInTurn(m api.Msg) {
	m.Turn = a.line.Turn
	a.say(m)
}

func (a *act) say(m api.Msg) {
	m.From, m.Line = a.id, a.at
	a.said = append(a.said, m)
}

func with(set, core int) int    { return set | bit(core) }
func without(set, core int) int { return set &^ bit(core) }
func has(set, core int) bool    { return set&bit(core) != 0 }

// bit is a core's place in a set. A number below 0, that no steps make, would panic if it were not made a uint.
func bit(core int) int { return 1 << uint(core) }
