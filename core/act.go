package core

import (
	"sharedhearth/api"
	"sharedhearth/flat"
)

// act is what a core does with one of its lines: both as they are by now, and what came of it.
type act struct {
	id, home, at int
	line         api.Line
	wait         api.Op
	said         []api.Msg
	done         []api.Done
}

// start looks at line at of c, which must be there.
func start(c api.Core, id, home, at int) act {
	return act{id: id, home: home, at: at, line: c.Lines[at], wait: c.Wait}
}

// core is c, from which a started, as a has left it.
func (a *act) core(c api.Core) api.Core {
	out := Own(c)
	out.Lines[a.at] = a.line
	out.Wait = a.wait
	return out
}

func (a *act) begin(o api.Op) {
	want := needs(a.line.State, o.Kind)
	if want == 0 {
		if o.Kind == api.OpEvict {
			a.drop()
		}
		a.do(o)
		return
	}
	if want == api.MsgPut {
		a.line.State = api.Leaving
	}
	a.line.Want = want
	a.line.Serial++
	a.wait = o
	a.ask()
}

// needs is the kind of message that a line of that state must ask with ahead of an operation, or 0.
func needs(state, op int) int {
	switch {
	case op == api.OpEvict && state == api.Alone:
		return api.MsgPut
	case op == api.OpEvict || state == api.Alone:
		return 0
	case op != api.OpLoad:
		return api.MsgGetX
	case state != api.Copy:
		return api.MsgGetS
	}
	return 0
}

// letGo answers also what is old: else the home would ask for ever, if an answer was lost.
func (a *act) letGo(m api.Msg) {
	if m.Turn > a.line.Seen {
		a.line.Seen = m.Turn
		if a.line.State == api.Copy {
			a.drop()
		}
	}
	a.say(api.Msg{Kind: api.MsgGone, Turn: m.Turn})
}

// give says again what it gave in that turn: the line itself may hold another value by now, or none.
func (a *act) give(m api.Msg) {
	if m.Turn == 0 || m.Turn != a.line.Gave {
		if !a.mayGive(m.Turn) {
			return
		}
		a.giveFirst(m)
	}
	a.say(api.Msg{Kind: api.MsgData, Turn: a.line.Gave, Value: a.line.Given})
}

func (a *act) mayGive(turn int) bool {
	has := a.line.State == api.Alone || a.line.State == api.Leaving
	return has && turn > a.line.Seen
}

func (a *act) giveFirst(m api.Msg) {
	a.line.Gave, a.line.Seen = m.Turn, m.Turn
	a.line.Given = a.line.Value
	if a.line.Want == api.MsgPut {
		a.left()
	} else if m.Kind == api.MsgFetchX {
		a.drop()
	} else {
		a.line.State = api.Copy
	}
}

// receive thanks also for what is old: else the home would grant it for ever, if the thanks were lost.
func (a *act) receive(m api.Msg) {
	if m.Serial > a.line.Serial {
		return
	}
	if m.Serial == a.line.Serial && a.wants(m.Alone) {
		a.line.State = api.Copy
		if m.Alone {
			a.line.State = api.Alone
		}
		a.line.Value = m.Value
		a.line.Want = 0
		a.line.Seen = m.Turn
		a.do(a.wait)
		a.wait = api.Op{}
	}
	a.say(api.Msg{Kind: api.MsgThanks, Turn: m.Turn})
}

// wants is whether the line asks to have it alone, or for a copy.
func (a *act) wants(alone bool) bool {
	if alone {
		return a.line.Want == api.MsgGetX
	}
	return a.line.Want == api.MsgGetS
}

func (a *act) leave(m api.Msg) {
	if a.line.Want == api.MsgPut && m.Serial == a.line.Serial {
		a.left()
	}
}

// left has the line gone that was given back, and what waits for that done.
func (a *act) left() {
	a.drop()
	a.line.Want = 0
	a.tell(a.wait, 0)
	a.wait = api.Op{}
}

func (a *act) drop() {
	a.line.State, a.line.Value = api.Nothing, 0
}

// do has o done as if the line were all of memory.
func (a *act) do(o api.Op) {
	m, told, err := flat.Do([]int{a.line.Value}, api.Op{Kind: o.Kind, Value: o.Value})
	// Steps make no core of which such an operation waits.
	if err != api.OK {
		return
	}
	a.line.Value = m[0]
	a.tell(o, told)
}

func (a *act) tell(o api.Op, value int) {
	a.done = append(a.done, api.Done{Core: a.id, Op: o, Value: value})
}

func (a *act) ask() {
	m := api.Msg{Kind: a.line.Want, Serial: a.line.Serial}
	if m.Kind == api.MsgPut {
		m.Value = a.line.Value
	}
	a.say(m)
}

func (a *act) say(m api.Msg) {
	m.From, m.To, m.Line = a.id, a.home, a.at
	a.said = append(a.said, m)
}
