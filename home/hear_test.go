package home_test

import (
	"slices"
	"testing"

	"sharedhearth/api"
	"sharedhearth/home"
)

// hears is a message of a core's, of the middle line.
func hears(kind, from, serial, turn, value int) api.Msg {
	return api.Msg{Kind: kind, From: from, To: id, Line: 1, Serial: serial, Turn: turn, Value: value}
}

// hearCase is a line, what is heard, and what comes of it.
type hearCase struct {
	name string
	e    api.Entry
	m    api.Msg
	want api.Entry
	said []api.Msg
}

// hearAll has each case heard, also with what the kind has not: a MsgGetS, say, has no Turn, and no Alone.
func hearAll(t *testing.T, list []hearCase) {
	t.Helper()
	for _, x := range list {
		for _, m := range variants(x.m) {
			l, said := home.Hear(among(x.e), id, m)
			if !same(l, among(x.want)) || !slices.Equal(said, x.said) {
				t.Errorf("%s, %v: %v, %v", x.name, m, l[1:2], said)
			}
		}
	}
}

// variants are m, and m with other numbers where its kind has none.
func variants(m api.Msg) []api.Msg {
	out := []api.Msg{m}
	for _, n := range []int{-1, 7, 8, 99} {
		x := m
		x.To, x.Alone = n, n > 7
		switch m.Kind {
		case api.MsgGetS, api.MsgGetX:
			x.Turn, x.Value = n, n
		case api.MsgPut:
			x.Turn = n
		case api.MsgData:
			x.Serial = n
		case api.MsgGone, api.MsgThanks:
			x.Serial, x.Value = n, n
		}
		out = append(out, x)
	}
	return out
}

// still is a case of which nothing comes but what is said.
func still(name string, e api.Entry, m api.Msg, said ...api.Msg) hearCase {
	return hearCase{name: name, e: e, m: m, want: e, said: said}
}

// but is e with a change; its Last is its own.
func but(e api.Entry, change func(e *api.Entry)) api.Entry {
	e = clone(e)
	change(&e)
	return e
}

// turn8 is e, in the turn behind it, for a core that asked with that serial.
func turn8(e api.Entry, phase, core, serial int, alone bool, need int) api.Entry {
	return but(e, func(e *api.Entry) {
		e.Phase, e.For, e.Serial, e.Alone, e.Turn, e.Need = phase, core, serial, alone, 8, need
		e.Last[core] = serial
	})
}

func TestHearGetOfALineThatNobodyHas(t *testing.T) {
	hearAll(t, []hearCase{
		{"a copy", bare, hears(api.MsgGetS, 1, 5, 0, 0), turn8(bare, api.Granting, 1, 5, false, 0), []api.Msg{grants(1, 5, 8, 50, false)}},
		{"alone", bare, hears(api.MsgGetX, 1, 5, 0, 0), turn8(bare, api.Granting, 1, 5, true, 0), []api.Msg{grants(1, 5, 8, 50, true)}},
		{"core 0", bare, hears(api.MsgGetX, 0, 6, 0, 0), turn8(bare, api.Granting, 0, 6, true, 0), []api.Msg{grants(0, 6, 8, 50, true)}},
		{"the last core", bare, hears(api.MsgGetS, 3, 3, 0, 0), turn8(bare, api.Granting, 3, 3, false, 0), []api.Msg{grants(3, 3, 8, 50, false)}},
		{"a far serial", bare, hears(api.MsgGetS, 1, api.MaxNumber, 0, 0), turn8(bare, api.Granting, 1, api.MaxNumber, false, 0), []api.Msg{grants(1, api.MaxNumber, 8, 50, false)}},
	})
}

// Steps make no line with somebody in Need that is not Clearing; but the next phase has nobody else there.
func TestNextPhaseHasNobodyElseInNeed(t *testing.T) {
	for _, x := range []struct {
		e     api.Entry
		phase int
		said  api.Msg
	}{{bare, api.Granting, grants(1, 5, 8, 50, false)}, {owned, api.Fetching, says(api.MsgFetchS, 2, 8)}} {
		e := but(x.e, func(e *api.Entry) { e.Need = set(0, 3) })
		hearAll(t, []hearCase{{"somebody in Need", e, hears(api.MsgGetS, 1, 5, 0, 0), turn8(e, x.phase, 1, 5, false, 0), []api.Msg{x.said}}})
	}
}

func TestHearGetOfALineOfWhichThereAreCopies(t *testing.T) {
	only := but(shared, func(e *api.Entry) { e.Sharers = set(2) })
	hearAll(t, []hearCase{
		{"one more copy", shared, hears(api.MsgGetS, 1, 5, 0, 0), turn8(shared, api.Granting, 1, 5, false, 0), []api.Msg{grants(1, 5, 8, 50, false)}},
		{"a copy again", shared, hears(api.MsgGetS, 2, 4, 0, 0), turn8(shared, api.Granting, 2, 4, false, 0), []api.Msg{grants(2, 4, 8, 50, false)}},
		{"alone", shared, hears(api.MsgGetX, 1, 5, 0, 0), turn8(shared, api.Clearing, 1, 5, true, set(0, 2, 3)),
			[]api.Msg{says(api.MsgInv, 0, 8), says(api.MsgInv, 2, 8), says(api.MsgInv, 3, 8)}},
		{"alone, of one that has a copy", shared, hears(api.MsgGetX, 2, 4, 0, 0), turn8(shared, api.Clearing, 2, 4, true, set(0, 3)),
			[]api.Msg{says(api.MsgInv, 0, 8), says(api.MsgInv, 3, 8)}},
		{"alone, of the only one that has a copy", only, hears(api.MsgGetX, 2, 4, 0, 0), turn8(only, api.Granting, 2, 4, true, 0), []api.Msg{grants(2, 4, 8, 50, true)}},
		{"alone, and just one other has a copy", only, hears(api.MsgGetX, 0, 6, 0, 0), turn8(only, api.Clearing, 0, 6, true, set(2)), []api.Msg{says(api.MsgInv, 2, 8)}},
	})
}

func TestHearGetOfALineThatOneHasAlone(t *testing.T) {
	first := but(owned, func(e *api.Entry) { e.Owner = 0 })
	hearAll(t, []hearCase{
		{"a copy", owned, hears(api.MsgGetS, 1, 5, 0, 0), turn8(owned, api.Fetching, 1, 5, false, 0), []api.Msg{says(api.MsgFetchS, 2, 8)}},
		{"alone", owned, hears(api.MsgGetX, 1, 5, 0, 0), turn8(owned, api.Fetching, 1, 5, true, 0), []api.Msg{says(api.MsgFetchX, 2, 8)}},
		{"core 0 has it", first, hears(api.MsgGetS, 1, 5, 0, 0), turn8(first, api.Fetching, 1, 5, false, 0), []api.Msg{says(api.MsgFetchS, 0, 8)}},
		{"the one that has it", owned, hears(api.MsgGetX, 2, 4, 0, 0), turn8(owned, api.Fetching, 2, 4, true, 0), []api.Msg{says(api.MsgFetchX, 2, 8)}},
	})
}

// One at a time: who asks while another one's turn is on must ask again.
func TestHearGetInAnotherTurn(t *testing.T) {
	for _, kind := range []int{api.MsgGetS, api.MsgGetX} {
		for _, x := range starts {
			if x.e.Phase == api.Idle {
				continue
			}
			for core := range 4 {
				hearAll(t, []hearCase{
					still(x.name, x.e, hears(kind, core, x.e.Last[core]+1, 0, 0)),
					still(x.name, x.e, hears(kind, core, api.MaxNumber, 0, 0)),
					still(x.name, x.e, hears(kind, core, x.e.Last[core], 0, 0)),
				})
			}
		}
	}
}

// What is old, or there twice, does nothing.
func TestHearGetOfOldSerials(t *testing.T) {
	for _, kind := range []int{api.MsgGetS, api.MsgGetX} {
		for _, e := range []api.Entry{bare, shared, owned} {
			for core, last := range e.Last {
				for _, serial := range []int{last, last - 1, 0, -1} {
					hearAll(t, []hearCase{still("an old serial", e, hears(kind, core, serial, 0, 0))})
				}
			}
		}
		hearAll(t, []hearCase{still("serial 0 of a new line", home.New(4, 1)[0], hears(kind, 1, 0, 0, 0))})
	}
}

func TestHearGetInTheLastTurns(t *testing.T) {
	for _, kind := range []int{api.MsgGetS, api.MsgGetX} {
		for _, e := range []api.Entry{bare, shared, owned} {
			for _, turn := range []int{api.MaxNumber, api.MaxNumber + 1} {
				late := but(e, func(e *api.Entry) { e.Turn = turn })
				hearAll(t, []hearCase{still("no turn is left", late, hears(kind, 1, 5, 0, 0))})
			}
		}
		e := but(bare, func(e *api.Entry) { e.Turn = api.MaxNumber - 1 })
		l, said := home.Hear(among(e), id, hears(kind, 1, 5, 0, 0))
		if l[1].Turn != api.MaxNumber || !slices.Equal(said, []api.Msg{grants(1, 5, api.MaxNumber, 50, kind == api.MsgGetX)}) {
			t.Errorf("the last turn: %v, %v", l, said)
		}
	}
}

func TestHearPut(t *testing.T) {
	back := func(e api.Entry, core, serial int) api.Entry {
		return but(e, func(e *api.Entry) { e.Last[core] = serial })
	}
	hearAll(t, []hearCase{
		{"of the one that has it", owned, hears(api.MsgPut, 2, 4, 0, 33), but(back(bare, 2, 4), func(e *api.Entry) { e.Value = 33 }), []api.Msg{takes(2, 4)}},
		{"of a far serial", owned, hears(api.MsgPut, 2, api.MaxNumber, 0, 0), but(back(bare, 2, api.MaxNumber), func(e *api.Entry) { e.Value = 0 }), []api.Msg{takes(2, api.MaxNumber)}},
		{"of another one", owned, hears(api.MsgPut, 1, 5, 0, 33), back(owned, 1, 5), []api.Msg{takes(1, 5)}},
		{"of one that has a copy", shared, hears(api.MsgPut, 0, 6, 0, 33), back(shared, 0, 6), []api.Msg{takes(0, 6)}},
		{"and nobody has it", bare, hears(api.MsgPut, 3, 3, 0, 33), back(bare, 3, 3), []api.Msg{takes(3, 3)}},
		still("again, of the one that has it", owned, hears(api.MsgPut, 2, 3, 0, 33), takes(2, 3)),
		still("older, of the one that has it", owned, hears(api.MsgPut, 2, 1, 0, 33), takes(2, 1)),
		still("serial 0", owned, hears(api.MsgPut, 2, 0, 0, 33), takes(2, 0)),
		still("again, of another one", owned, hears(api.MsgPut, 1, 4, 0, 33), takes(1, 4)),
		still("again, and nobody has it", bare, hears(api.MsgPut, 0, 5, 0, 33), takes(0, 5)),
		still("again, of one that has a copy", shared, hears(api.MsgPut, 0, 4, 0, 33), takes(0, 4)),
	})
	late := but(owned, func(e *api.Entry) { e.Turn = api.MaxNumber })
	hearAll(t, []hearCase{{"no turn is left", late, hears(api.MsgPut, 2, 4, 0, 33), but(late, func(e *api.Entry) { e.Value, e.Owner, e.Last[2] = 33, -1, 4 }), []api.Msg{takes(2, 4)}}})
}

func TestHearPutInATurn(t *testing.T) {
	for _, x := range starts {
		if x.e.Phase == api.Idle {
			continue
		}
		for core, last := range x.e.Last {
			for _, serial := range []int{last - 1, last, last + 1, api.MaxNumber} {
				hearAll(t, []hearCase{still(x.name, x.e, hears(api.MsgPut, core, serial, 0, 33))})
			}
		}
	}
}

func TestHearData(t *testing.T) {
	given := func(e api.Entry, value, sharers, phase, need int) api.Entry {
		return but(e, func(e *api.Entry) { e.Value, e.Owner, e.Sharers, e.Phase, e.Need = value, -1, sharers, phase, need })
	}
	toOwner := but(fetchesX, func(e *api.Entry) { e.For = 2 })
	copies := but(fetchesX, func(e *api.Entry) { e.Sharers = set(0, 1) })
	hearAll(t, []hearCase{
		{"for a copy", fetchesS, hears(api.MsgData, 2, 0, 7, 33), given(fetchesS, 33, set(2), api.Granting, 0), []api.Msg{grants(1, 4, 7, 33, false)}},
		{"for one alone", fetchesX, hears(api.MsgData, 2, 0, 7, 33), given(fetchesX, 33, 0, api.Granting, 0), []api.Msg{grants(1, 4, 7, 33, true)}},
		{"for the one that had it", toOwner, hears(api.MsgData, 2, 0, 7, 0), given(toOwner, 0, 0, api.Granting, 0), []api.Msg{grants(2, 4, 7, 0, true)}},
		{"for one alone, and there are copies", copies, hears(api.MsgData, 2, 0, 7, 33), given(copies, 33, set(0, 1), api.Clearing, set(0)), []api.Msg{says(api.MsgInv, 0, 7)}},
	})
	for _, e := range []api.Entry{fetchesS, fetchesX} {
		for _, turn := range []int{6, 8, 0, -1, api.MaxNumber} {
			hearAll(t, []hearCase{still("of another turn", e, hears(api.MsgData, 2, 0, turn, 33))})
		}
		for _, core := range []int{0, 1, 3} {
			hearAll(t, []hearCase{still("of another core", e, hears(api.MsgData, core, 0, 7, 33))})
		}
	}
}

func TestHearGone(t *testing.T) {
	three := but(clears, func(e *api.Entry) { e.Need = set(3) })
	hearAll(t, []hearCase{
		{"the first one", clears, hears(api.MsgGone, 0, 0, 7, 0), but(clears, func(e *api.Entry) { e.Need, e.Sharers = set(3), set(1, 3) }), nil},
		{"another one first", clears, hears(api.MsgGone, 3, 0, 7, 0), but(clears, func(e *api.Entry) { e.Need, e.Sharers = set(0), set(0, 1) }), nil},
		{"the last one, and the next phase has new ones", three, hears(api.MsgGone, 3, 0, 7, 0), but(three, func(e *api.Entry) { e.Need, e.Sharers = set(0), set(0, 1) }), []api.Msg{says(api.MsgInv, 0, 7)}},
		still("of one that is not in Need", clears, hears(api.MsgGone, 2, 0, 7, 0)),
		still("of the one for whom it is", clears, hears(api.MsgGone, 1, 0, 7, 0)),
		still("of one that let go already", three, hears(api.MsgGone, 0, 0, 7, 0)),
	})
	last := but(clears, func(e *api.Entry) { e.Need, e.Sharers = set(3), set(1, 3) })
	bareLast := but(clears, func(e *api.Entry) { e.Need, e.Sharers = set(3), set(3) })
	hearAll(t, []hearCase{
		{"the last one", last, hears(api.MsgGone, 3, 0, 7, 0), grantsX, []api.Msg{grants(1, 4, 7, 50, true)}},
		{"the last one, for one that has no copy", bareLast, hears(api.MsgGone, 3, 0, 7, 0), but(grantsX, func(e *api.Entry) { e.Sharers = 0 }), []api.Msg{grants(1, 4, 7, 50, true)}},
	})
	for _, turn := range []int{6, 8, 0, -1, api.MaxNumber} {
		hearAll(t, []hearCase{still("of another turn", clears, hears(api.MsgGone, 0, 0, turn, 0)), still("the last one, of another turn", last, hears(api.MsgGone, 3, 0, turn, 0))})
	}
}

func TestHearThanks(t *testing.T) {
	idle := func(e api.Entry, owner, sharers int) api.Entry {
		return but(e, func(e *api.Entry) {
			e.Owner, e.Sharers, e.Phase, e.For, e.Serial, e.Alone = owner, sharers, api.Idle, 0, 0, false
		})
	}
	again := but(grantsS, func(e *api.Entry) { e.Sharers = set(0, 1) })
	fresh := but(grantsX, func(e *api.Entry) { e.Sharers = 0 })
	hearAll(t, []hearCase{
		{"for a copy", grantsS, hears(api.MsgThanks, 1, 0, 7, 0), idle(grantsS, -1, set(0, 1, 3)), nil},
		{"for a copy, of one that had one", again, hears(api.MsgThanks, 1, 0, 7, 0), idle(again, -1, set(0, 1)), nil},
		{"for it alone", fresh, hears(api.MsgThanks, 1, 0, 7, 0), idle(fresh, 1, 0), nil},
		{"for it alone, of one that had a copy", grantsX, hears(api.MsgThanks, 1, 0, 7, 0), idle(grantsX, 1, 0), nil},
	})
	for _, e := range []api.Entry{grantsS, grantsX} {
		for _, turn := range []int{6, 8, 0, -1, api.MaxNumber} {
			hearAll(t, []hearCase{still("of another turn", e, hears(api.MsgThanks, 1, 0, turn, 0))})
		}
		for _, core := range []int{0, 2, 3} {
			hearAll(t, []hearCase{still("of another core", e, hears(api.MsgThanks, core, 0, 7, 0))})
		}
	}
}

// What ends one phase is nothing in another one, nor when the line is Idle.
func TestHearInAnotherPhase(t *testing.T) {
	for kind, phase := range map[int]int{api.MsgData: api.Fetching, api.MsgGone: api.Clearing, api.MsgThanks: api.Granting} {
		for _, x := range starts {
			if x.e.Phase == phase {
				continue
			}
			for core := range 4 {
				hearAll(t, []hearCase{still(x.name, x.e, hears(kind, core, x.e.Last[core]+1, 7, 33))})
			}
		}
		hearAll(t, []hearCase{still("a new line", home.New(4, 1)[0], hears(kind, 0, 0, 0, 33))})
	}
}

func TestHearOtherKinds(t *testing.T) {
	for _, kind := range append([]int{0, api.MsgInv, api.MsgFetchS, api.MsgFetchX, api.MsgGrant, api.MsgTaken, 12, 13}, odd...) {
		for _, x := range starts {
			for core := range 4 {
				hearAll(t, []hearCase{still(x.name, x.e, hears(kind, core, 9, 7, 33))})
			}
		}
	}
}

// kinds are all kinds, and some that are none.
var kinds = []int{-1, 0, 1, 2, 3, 4, 5, 6, 7, 8, 9, 10, 11, 12}

func TestHearOfNoLine(t *testing.T) {
	for _, kind := range kinds {
		for _, line := range append([]int{3, 4}, odd...) {
			for _, x := range starts {
				m := hears(kind, 1, 9, 7, 33)
				m.Line = line
				hearAll(t, []hearCase{still(x.name, x.e, m)})
				room := among(x.e)
				if l, said := home.Hear(room[:0], id, m); len(l) != 0 || len(said) != 0 {
					t.Errorf("no lines at all, kind %d: %v, %v", kind, l, said)
				}
			}
		}
		if l, said := home.Hear(among(bare)[:1], id, hears(kind, 1, 9, 7, 33)); !same(l, among(bare)[:1]) || len(said) != 0 {
			t.Errorf("a line of the spare room, kind %d: %v, %v", kind, l, said)
		}
		if l, said := home.Hear(nil, id, api.Msg{Kind: kind, Serial: 1}); len(l) != 0 || len(said) != 0 {
			t.Errorf("no home, kind %d: %v, %v", kind, l, said)
		}
	}
}

// The home itself is no core, nor is one whose Last would stand in the spare room.
func TestHearOfNoCore(t *testing.T) {
	for _, kind := range kinds {
		for _, core := range append([]int{4, 5, 63, 64}, odd...) {
			for _, x := range starts {
				hearAll(t, []hearCase{still(x.name, x.e, hears(kind, core, 9, 7, 33))})
				l, said := home.Hear(roomy(x.e), id, hears(kind, core, 99, 7, 33))
				if !same(l, among(x.e)) || len(said) != 0 {
					t.Errorf("%s, kind %d, core %d: %v, %v", x.name, kind, core, l, said)
				}
			}
		}
		if l, said := home.Hear(home.New(0, 1), 0, api.Msg{Kind: kind, Serial: 1}); !same(l, home.New(0, 1)) || len(said) != 0 {
			t.Errorf("no cores, kind %d: %v, %v", kind, l, said)
		}
	}
}

// Each line hears for itself.
func TestHearOfEachLine(t *testing.T) {
	for at := range 4 {
		l, said := home.Hear(home.New(2, 4), 2, api.Msg{Kind: api.MsgGetS, From: 1, Line: at, Serial: 3})
		want := home.New(2, 4)
		want[at] = api.Entry{Owner: -1, Phase: api.Granting, For: 1, Serial: 3, Turn: 1, Last: []int{0, 3}}
		grant := api.Msg{Kind: api.MsgGrant, From: 2, To: 1, Line: at, Serial: 3, Turn: 1}
		if !same(l, want) || !slices.Equal(said, []api.Msg{grant}) {
			t.Errorf("line %d: %v, %v", at, l, said)
		}
	}
}
