package core_test

import (
	"slices"
	"testing"

	"sharedhearth/api"
	"sharedhearth/core"
)

// heard is a message of the home's, of the middle line.
func heard(kind, serial, turn, value int, alone bool) api.Msg {
	return api.Msg{Kind: kind, From: home, To: me, Line: 1, Serial: serial, Turn: turn, Value: value, Alone: alone}
}

// hearCase is a line and what waits, what is heard, and what comes of it.
type hearCase struct {
	name string
	l    api.Line
	wait api.Op
	m    api.Msg
	want api.Line
	left api.Op // what waits then
	said []api.Msg
	done []api.Done
}

func hearAll(t *testing.T, list []hearCase) {
	t.Helper()
	for _, x := range list {
		c, said, did := core.Hear(among(x.l, x.wait), me, home, x.m)
		if !same(c, among(x.want, x.left)) || !slices.Equal(said, x.said) || !slices.Equal(did, x.done) {
			t.Errorf("%s: %v, %v, %v", x.name, c, said, did)
		}
	}
}

// still is a case of which nothing comes but what is said.
func still(name string, l api.Line, wait api.Op, m api.Msg, said ...api.Msg) hearCase {
	return hearCase{name: name, l: l, wait: wait, m: m, want: l, left: wait, said: said}
}

var (
	none   = api.Op{}
	load   = op(api.OpLoad, 1, 0)
	store  = op(api.OpStore, 1, 9)
	add    = op(api.OpAdd, 1, 100)
	evict  = op(api.OpEvict, 1, 0)
	copied = api.Line{State: api.Copy, Value: 200, Serial: 4, Seen: 5, Gave: 3, Given: 8}
	alone  = api.Line{State: api.Alone, Value: 200, Serial: 4, Seen: 5, Gave: 3, Given: 8}
	gone   = api.Line{Serial: 4, Seen: 5, Gave: 3, Given: 8}
	leaves = api.Line{State: api.Leaving, Value: 200, Want: api.MsgPut, Serial: 4, Seen: 5, Gave: 3, Given: 8}
	wantsS = api.Line{Want: api.MsgGetS, Serial: 4, Seen: 5, Gave: 3, Given: 8}
	wantsX = api.Line{Want: api.MsgGetX, Serial: 4, Seen: 5, Gave: 3, Given: 8}
	copyX  = api.Line{State: api.Copy, Value: 200, Want: api.MsgGetX, Serial: 4, Seen: 5, Gave: 3, Given: 8}
)

// seen is l, of another turn that it saw.
func seen(l api.Line, turn int) api.Line {
	l.Seen = turn
	return l
}

func TestHearInv(t *testing.T) {
	inv := func(turn int) api.Msg { return heard(api.MsgInv, 4, turn, 77, true) }
	says := func(turn int) []api.Msg { return []api.Msg{says(api.MsgGone, 1, 0, turn, 0)} }
	hearAll(t, []hearCase{
		{"a copy", copied, none, inv(6), seen(gone, 6), none, says(6), nil},
		{"a copy, of a far turn", copied, none, inv(api.MaxNumber), seen(gone, api.MaxNumber), none, says(api.MaxNumber), nil},
		{"a copy that is to be alone", copyX, store, inv(6), seen(wantsX, 6), store, says(6), nil},
		{"nothing", gone, none, inv(6), seen(gone, 6), none, says(6), nil},
		{"one alone", alone, none, inv(6), seen(alone, 6), none, says(6), nil},
		{"one that leaves", leaves, evict, inv(6), seen(leaves, 6), evict, says(6), nil},
		{"one that is asked for", wantsS, load, inv(6), seen(wantsS, 6), load, says(6), nil},
		{"the same turn", copied, none, inv(5), copied, none, says(5), nil},
		{"an older turn", copied, none, inv(4), copied, none, says(4), nil},
		{"turn 0", copied, none, inv(0), copied, none, says(0), nil},
		{"a turn below 0", copied, none, inv(-1), copied, none, says(-1), nil},
	})
}

func TestHearFetchOfOneAlone(t *testing.T) {
	data := func(turn, value int) []api.Msg { return []api.Msg{says(api.MsgData, 1, 0, turn, value)} }
	hearAll(t, []hearCase{
		{"give, and keep a copy", alone, none, heard(api.MsgFetchS, 9, 6, 77, true),
			api.Line{State: api.Copy, Value: 200, Serial: 4, Seen: 6, Gave: 6, Given: 200}, none, data(6, 200), nil},
		{"give", alone, none, heard(api.MsgFetchX, 9, 6, 77, true),
			api.Line{Serial: 4, Seen: 6, Gave: 6, Given: 200}, none, data(6, 200), nil},
		{"give in a far turn", alone, none, heard(api.MsgFetchX, 0, api.MaxNumber, 0, false),
			api.Line{Serial: 4, Seen: api.MaxNumber, Gave: api.MaxNumber, Given: 200}, none, data(api.MaxNumber, 200), nil},
		{"give while another line is asked for", alone, op(api.OpLoad, 0, 0), heard(api.MsgFetchX, 0, 6, 0, false),
			api.Line{Serial: 4, Seen: 6, Gave: 6, Given: 200}, op(api.OpLoad, 0, 0), data(6, 200), nil},
		still("the turn that it saw", alone, none, heard(api.MsgFetchS, 0, 5, 0, false)),
		still("an older turn", alone, none, heard(api.MsgFetchX, 0, 4, 0, false)),
		still("turn 0", alone, none, heard(api.MsgFetchX, 0, 0, 0, false)),
		still("a turn below 0", alone, none, heard(api.MsgFetchS, 0, -1, 0, false)),
	})
}

// Who gives a line back gives it all, whatever is asked for, and need not wait for its being taken.
func TestHearFetchOfOneThatLeaves(t *testing.T) {
	for _, kind := range []int{api.MsgFetchS, api.MsgFetchX} {
		hearAll(t, []hearCase{
			{"a later turn", leaves, evict, heard(kind, 0, 6, 0, false),
				api.Line{Serial: 4, Seen: 6, Gave: 6, Given: 200}, none, []api.Msg{says(api.MsgData, 1, 0, 6, 200)}, []api.Done{done(evict, 0)}},
			still("the turn that it saw", leaves, evict, heard(kind, 0, 5, 0, false)),
			still("turn 0", leaves, evict, heard(kind, 0, 0, 0, false)),
			still("again", leaves, evict, heard(kind, 0, 3, 0, false), says(api.MsgData, 1, 0, 3, 8)),
		})
	}
}

// What was given is kept, and said again, whatever became of the line.
func TestHearFetchAgain(t *testing.T) {
	for _, kind := range []int{api.MsgFetchS, api.MsgFetchX} {
		again := heard(kind, 0, 3, 77, true)
		data := says(api.MsgData, 1, 0, 3, 8)
		hearAll(t, []hearCase{
			still("nothing", gone, none, again, data),
			still("a copy", copied, none, again, data),
			still("one alone", alone, none, again, data),
			still("one that is asked for", wantsS, load, again, data),
			still("one that is to be alone", copyX, store, again, data),
			still("one alone, of the turn that it saw", api.Line{State: api.Alone, Value: 7, Seen: 3, Gave: 3, Given: 8}, none, again, data),
			still("one alone, that saw less than it gave", api.Line{State: api.Alone, Value: 7, Seen: 2, Gave: 3, Given: 8}, none, again, data),
		})
	}
}

func TestHearFetchOfWhatIsNotThere(t *testing.T) {
	for _, kind := range []int{api.MsgFetchS, api.MsgFetchX} {
		for _, turn := range []int{0, 2, 4, 5, 6, 9} {
			m := heard(kind, 4, turn, 0, true)
			hearAll(t, []hearCase{
				still("nothing", gone, none, m),
				still("a copy", copied, none, m),
				still("one that is asked for", wantsS, load, m),
				still("a copy that is to be alone", copyX, store, m),
			})
		}
		hearAll(t, []hearCase{
			still("a new line, turn 0", api.Line{}, none, heard(kind, 0, 0, 0, false)),
			still("a new line, turn 1", api.Line{}, none, heard(kind, 0, 1, 0, false)),
			still("one alone, that gave nothing, turn 0", api.Line{State: api.Alone, Value: 5, Serial: 1, Seen: 1}, none, heard(kind, 0, 0, 0, false)),
		})
	}
}

func TestHearGrant(t *testing.T) {
	thanks := []api.Msg{says(api.MsgThanks, 1, 0, 7, 0)}
	addsX := op(api.OpAdd, 1, 255)
	hearAll(t, []hearCase{
		{"a copy, for a load", wantsS, load, heard(api.MsgGrant, 4, 7, 33, false),
			api.Line{State: api.Copy, Value: 33, Serial: 4, Seen: 7, Gave: 3, Given: 8}, none, thanks, []api.Done{done(load, 33)}},
		{"alone, for a store", wantsX, store, heard(api.MsgGrant, 4, 7, 33, true),
			api.Line{State: api.Alone, Value: 9, Serial: 4, Seen: 7, Gave: 3, Given: 8}, none, thanks, []api.Done{done(store, 0)}},
		{"alone, for an add", wantsX, add, heard(api.MsgGrant, 4, 7, 33, true),
			api.Line{State: api.Alone, Value: 133, Serial: 4, Seen: 7, Gave: 3, Given: 8}, none, thanks, []api.Done{done(add, 33)}},
		{"alone, for an add that wraps round", wantsX, addsX, heard(api.MsgGrant, 4, 7, 255, true),
			api.Line{State: api.Alone, Value: 254, Serial: 4, Seen: 7, Gave: 3, Given: 8}, none, thanks, []api.Done{done(addsX, 255)}},
		{"alone, of a copy", copyX, add, heard(api.MsgGrant, 4, 7, 1, true),
			api.Line{State: api.Alone, Value: 101, Serial: 4, Seen: 7, Gave: 3, Given: 8}, none, thanks, []api.Done{done(add, 1)}},
		{"of a turn below what it saw", seen(wantsS, 9), load, heard(api.MsgGrant, 4, 7, 33, false),
			api.Line{State: api.Copy, Value: 33, Serial: 4, Seen: 7, Gave: 3, Given: 8}, none, thanks, []api.Done{done(load, 33)}},
	})
}

func TestHearGrantOfAnotherKind(t *testing.T) {
	thanks := says(api.MsgThanks, 1, 0, 7, 0)
	hearAll(t, []hearCase{
		still("alone, and a copy is asked for", wantsS, load, heard(api.MsgGrant, 4, 7, 33, true), thanks),
		still("a copy, and it is to be alone", wantsX, store, heard(api.MsgGrant, 4, 7, 33, false), thanks),
		still("a copy of a copy that is to be alone", copyX, store, heard(api.MsgGrant, 4, 7, 33, false), thanks),
		still("a copy, and it leaves", leaves, evict, heard(api.MsgGrant, 4, 7, 33, false), thanks),
		still("alone, and it leaves", leaves, evict, heard(api.MsgGrant, 4, 7, 33, true), thanks),
	})
}

func TestHearGrantOfOtherSerials(t *testing.T) {
	for _, isAlone := range []bool{false, true} {
		for _, x := range []struct {
			name string
			l    api.Line
			wait api.Op
		}{
			{"nothing", gone, none}, {"a copy", copied, none}, {"alone", alone, none}, {"leaving", leaves, evict},
			{"wants a copy", wantsS, load}, {"wants it alone", wantsX, add}, {"a copy that wants it alone", copyX, store},
		} {
			for _, serial := range []int{3, 1, 0, -1} {
				hearAll(t, []hearCase{still(x.name+", older", x.l, x.wait, heard(api.MsgGrant, serial, 7, 33, isAlone), says(api.MsgThanks, 1, 0, 7, 0))})
			}
			for _, serial := range []int{5, 6, api.MaxNumber} {
				hearAll(t, []hearCase{still(x.name+", not asked yet", x.l, x.wait, heard(api.MsgGrant, serial, 7, 33, isAlone))})
			}
		}
		for _, l := range []api.Line{gone, copied, alone} {
			hearAll(t, []hearCase{still("it has come", l, none, heard(api.MsgGrant, 4, 7, 33, isAlone), says(api.MsgThanks, 1, 0, 7, 0))})
		}
		hearAll(t, []hearCase{still("a new line", api.Line{}, none, heard(api.MsgGrant, 0, 7, 33, isAlone), says(api.MsgThanks, 1, 0, 7, 0))})
	}
}

func TestHearTaken(t *testing.T) {
	hearAll(t, []hearCase{
		{"it leaves", leaves, evict, heard(api.MsgTaken, 4, 0, 0, false), gone, none, nil, []api.Done{done(evict, 0)}},
		{"other fields mean nothing", leaves, evict, heard(api.MsgTaken, 4, 9, 77, true), gone, none, nil, []api.Done{done(evict, 0)}},
		still("an older serial", leaves, evict, heard(api.MsgTaken, 3, 0, 0, false)),
		still("a later serial", leaves, evict, heard(api.MsgTaken, 5, 0, 0, false)),
		still("it is gone", gone, none, heard(api.MsgTaken, 4, 0, 0, false)),
		still("a copy", copied, none, heard(api.MsgTaken, 4, 0, 0, false)),
		still("one alone", alone, none, heard(api.MsgTaken, 4, 0, 0, false)),
		still("it is asked for", wantsS, load, heard(api.MsgTaken, 4, 0, 0, false)),
		still("it is to be alone", wantsX, store, heard(api.MsgTaken, 4, 0, 0, false)),
		still("a copy is to be alone", copyX, store, heard(api.MsgTaken, 4, 0, 0, false)),
	})
}

func TestHearOtherKinds(t *testing.T) {
	for _, kind := range append([]int{0, api.MsgGetS, api.MsgGetX, api.MsgPut, api.MsgGone, api.MsgData, api.MsgThanks, 12, 13}, odd...) {
		for _, isAlone := range []bool{false, true} {
			m := heard(kind, 4, 6, 33, isAlone)
			hearAll(t, []hearCase{
				still("nothing", gone, none, m), still("a copy", copied, none, m), still("alone", alone, none, m),
				still("leaving", leaves, evict, m), still("wants a copy", wantsS, load, m), still("wants it alone", wantsX, store, m),
			})
		}
	}
}

func TestHearOfNoLine(t *testing.T) {
	for kind := range 13 {
		for _, line := range append([]int{3, 4}, odd...) {
			m := heard(kind, 4, 6, 33, true)
			m.Line = line
			hearAll(t, []hearCase{still("no line", leaves, evict, m), still("no line", wantsX, store, m)})
			if c, said, did := core.Hear(api.Core{}, me, home, m); !zero(c) || len(said) != 0 || len(did) != 0 {
				t.Errorf("no lines at all: %v, %v, %v", c, said, did)
			}
		}
	}
	room := api.Core{Lines: core.New(3).Lines[:1]}
	if c, said, did := core.Hear(room, me, home, heard(api.MsgInv, 0, 6, 0, false)); !same(c, core.New(1)) || len(said) != 0 || len(did) != 0 {
		t.Errorf("a line of the spare room: %v, %v, %v", c, said, did)
	}
}

// Each line hears for itself.
func TestHearOfEachLine(t *testing.T) {
	for at := range 4 {
		c := core.New(4)
		c.Lines[at] = api.Line{State: api.Copy, Value: 5, Serial: 1, Seen: 1}
		got, said, did := core.Hear(c, me, home, api.Msg{Kind: api.MsgInv, Line: at, Turn: 2})
		want := core.New(4)
		want.Lines[at] = api.Line{Serial: 1, Seen: 2}
		if !same(got, want) || !slices.Equal(said, []api.Msg{says(api.MsgGone, at, 0, 2, 0)}) || len(did) != 0 {
			t.Errorf("line %d: %v, %v, %v", at, got, said, did)
		}
	}
}
