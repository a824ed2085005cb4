package core_test

import (
	"math"
	"reflect"
	"slices"
	"testing"

	"sharedhearth/api"
	"sharedhearth/core"
)

// The core of these tests is number 1, and the home number 2, where a test does not say otherwise.
const (
	me   = 1
	home = 2
)

// odd are numbers that are neither kinds, nor lines of a small core, nor values.
var odd = []int{-1, -256, 256, 257, 65536, math.MinInt, math.MaxInt}

var kinds = []int{api.OpLoad, api.OpStore, api.OpAdd, api.OpEvict}

func op(kind, line, value int) api.Op {
	return api.Op{Kind: kind, Line: line, Value: value}
}

// says is a message of the core's.
func says(kind, line, serial, turn, value int) api.Msg {
	return api.Msg{Kind: kind, From: me, To: home, Line: line, Serial: serial, Turn: turn, Value: value}
}

// done is an operation of the core's, and what it tells.
func done(o api.Op, value int) api.Done {
	return api.Done{Core: me, Op: o, Value: value}
}

// among is a core of three lines, of which the middle one is l; the others tell if they are touched.
func among(l api.Line, wait api.Op) api.Core {
	first := api.Line{State: api.Copy, Value: 11, Serial: 12, Seen: 13, Gave: 6, Given: 14}
	last := api.Line{State: api.Alone, Value: 21, Serial: 22, Seen: 23, Gave: 7, Given: 24}
	return api.Core{Lines: []api.Line{first, l, last}, Wait: wait}
}

func same(a, b api.Core) bool {
	return slices.Equal(a.Lines, b.Lines) && a.Wait == b.Wait
}

// zero is whether a core has no lines, and nothing else.
func zero(c api.Core) bool {
	return len(c.Lines) == 0 && c.Wait == api.Op{}
}

func TestNew(t *testing.T) {
	for _, lines := range []int{0, 1, 2, 4, 5, 1000} {
		if got := core.New(lines); !same(got, api.Core{Lines: make([]api.Line, lines)}) {
			t.Errorf("New(%d) = %v", lines, got)
		}
	}
}

func TestNewOfFewerThanNone(t *testing.T) {
	for _, lines := range []int{-1, -2, math.MinInt} {
		if got := core.New(lines); !zero(got) {
			t.Errorf("New(%d) = %v", lines, got)
		}
	}
}

// Beyond the limits nothing is promised; but it would be a pity to panic.
func TestNewOfFarTooManyDoesNotPanic(t *testing.T) {
	core.New(math.MaxInt)
	core.New(math.MaxInt32)
}

func TestNewIsNewEachTime(t *testing.T) {
	a, b := core.New(2), core.New(2)
	a.Lines[1].Value = 7
	if b.Lines[1].Value != 0 || core.New(2).Lines[1].Value != 0 {
		t.Errorf("two answers share memory")
	}
}

func TestOwn(t *testing.T) {
	full := api.Line{State: api.Leaving, Value: 2, Want: api.MsgPut, Serial: 4, Seen: 5, Gave: 6, Given: 7}
	for _, c := range []api.Core{
		{},
		{Lines: []api.Line{}},
		core.New(1),
		core.New(4),
		among(full, op(api.OpEvict, 1, 9)),
		{Wait: op(api.OpLoad, 3, 4)},
	} {
		if got := core.Own(c); !same(got, c) {
			t.Errorf("Own(%v) = %v", c, got)
		}
	}
}

func TestTimer(t *testing.T) {
	for _, x := range []struct {
		name string
		c    api.Core
		want []api.Msg
	}{
		{"no lines", api.Core{}, nil},
		{"a new core", core.New(4), nil},
		{"lines that want nothing", among(api.Line{State: api.Alone, Value: 3, Serial: 4, Seen: 5}, api.Op{}), nil},
		{"a copy", among(api.Line{Want: api.MsgGetS, Serial: 7, Seen: 3, Gave: 2, Given: 9}, op(api.OpLoad, 1, 0)),
			[]api.Msg{says(api.MsgGetS, 1, 7, 0, 0)}},
		{"alone", among(api.Line{Want: api.MsgGetX, Serial: 8, Seen: 3}, op(api.OpStore, 1, 5)),
			[]api.Msg{says(api.MsgGetX, 1, 8, 0, 0)}},
		{"alone, of a copy", among(api.Line{State: api.Copy, Value: 6, Want: api.MsgGetX, Serial: 8, Seen: 3}, op(api.OpAdd, 1, 5)),
			[]api.Msg{says(api.MsgGetX, 1, 8, 0, 0)}},
		{"back", among(api.Line{State: api.Leaving, Value: 6, Want: api.MsgPut, Serial: 9, Seen: 3, Gave: 3, Given: 5}, op(api.OpEvict, 1, 0)),
			[]api.Msg{says(api.MsgPut, 1, 9, 0, 6)}},
		{"the greatest serial", among(api.Line{Want: api.MsgGetS, Serial: api.MaxNumber}, op(api.OpLoad, 1, 0)),
			[]api.Msg{says(api.MsgGetS, 1, api.MaxNumber, 0, 0)}},
		{"several lines, in turn", api.Core{Lines: []api.Line{
			{State: api.Leaving, Value: 4, Want: api.MsgPut, Serial: 3},
			{Want: api.MsgGetX, Serial: 2},
			{State: api.Copy, Value: 9, Serial: 5},
			{Want: api.MsgGetS, Serial: 1}}},
			[]api.Msg{says(api.MsgPut, 0, 3, 0, 4), says(api.MsgGetX, 1, 2, 0, 0), says(api.MsgGetS, 3, 1, 0, 0)}},
	} {
		if got := core.Timer(x.c, me, home); !slices.Equal(got, x.want) {
			t.Errorf("%s: %v, want %v", x.name, got, x.want)
		}
	}
}

// What a core says goes from its number to the home's, whichever they are.
func TestNumbersOfCoreAndHome(t *testing.T) {
	for _, x := range []struct{ id, home int }{{0, 1}, {3, 4}, {0, 0}, {-1, 9}, {math.MaxInt, math.MinInt}} {
		c, said, did, err := core.Begin(core.New(2), x.id, x.home, op(api.OpAdd, 1, 2))
		ask := api.Msg{Kind: api.MsgGetX, From: x.id, To: x.home, Line: 1, Serial: 1}
		if !slices.Equal(said, []api.Msg{ask}) || len(did) != 0 || err != api.OK {
			t.Errorf("%v: Begin says %v, %v, %d", x, said, did, err)
		}
		if got := core.Timer(c, x.id, x.home); !slices.Equal(got, []api.Msg{ask}) {
			t.Errorf("%v: Timer says %v", x, got)
		}
		_, said, did = core.Hear(c, x.id, x.home, api.Msg{Kind: api.MsgGrant, Line: 1, Serial: 1, Turn: 5, Value: 3, Alone: true})
		thanks := api.Msg{Kind: api.MsgThanks, From: x.id, To: x.home, Line: 1, Turn: 5}
		add := api.Done{Core: x.id, Op: op(api.OpAdd, 1, 2), Value: 3}
		if !slices.Equal(said, []api.Msg{thanks}) || !slices.Equal(did, []api.Done{add}) {
			t.Errorf("%v: Hear says %v, %v", x, said, did)
		}
	}
}

// calls are all that a core does, with what they answer: a core, and what is said and done.
var calls = []struct {
	name string
	do   func(c api.Core) (api.Core, []api.Msg, []api.Done)
}{
	{"own", func(c api.Core) (api.Core, []api.Msg, []api.Done) { return core.Own(c), nil, nil }},
	{"timer", func(c api.Core) (api.Core, []api.Msg, []api.Done) { return api.Core{}, core.Timer(c, me, home), nil }},
	{"begin, at once", beginning(op(api.OpStore, 2, 9))},
	{"begin, and ask", beginning(op(api.OpStore, 0, 9))},
	{"begin, and leave", beginning(op(api.OpEvict, 2, 0))},
	{"begin, and be refused", beginning(op(api.OpLoad, 3, 0))},
	{"let go", hearing(api.Msg{Kind: api.MsgInv, Line: 0, Turn: 40})},
	{"give", hearing(api.Msg{Kind: api.MsgFetchX, Line: 2, Turn: 40})},
	{"give again", hearing(api.Msg{Kind: api.MsgFetchS, Line: 2, Turn: 7})},
	{"receive", hearing(api.Msg{Kind: api.MsgGrant, Line: 1, Serial: 4, Turn: 40, Value: 8})},
	{"leave", hearing(api.Msg{Kind: api.MsgTaken, Line: 1, Serial: 4})},
	{"hear nothing", hearing(api.Msg{Kind: api.MsgGetS, Line: 1})},
	{"hear of no line", hearing(api.Msg{Kind: api.MsgInv, Line: 3, Turn: 9})},
}

func beginning(o api.Op) func(api.Core) (api.Core, []api.Msg, []api.Done) {
	return func(c api.Core) (api.Core, []api.Msg, []api.Done) {
		out, said, did, _ := core.Begin(c, me, home, o)
		return out, said, did
	}
}

func hearing(m api.Msg) func(api.Core) (api.Core, []api.Msg, []api.Done) {
	return func(c api.Core) (api.Core, []api.Msg, []api.Done) {
		return core.Hear(c, me, home, m)
	}
}

// roomy are cores with spare room behind their lines.
func roomy() []api.Core {
	list := []api.Core{
		among(api.Line{State: api.Copy, Value: 5}, api.Op{}),
		among(api.Line{Want: api.MsgGetS, Serial: 4, Seen: 2}, op(api.OpLoad, 1, 0)),
		among(api.Line{State: api.Leaving, Value: 5, Want: api.MsgPut, Serial: 4, Seen: 2}, op(api.OpEvict, 1, 0)),
	}
	for i, c := range list {
		list[i].Lines = append(c.Lines, api.Line{State: api.Alone, Value: 33, Want: api.MsgGetS}, api.Line{Value: 44})[:3]
	}
	return list
}

// scribble writes over all of l, its spare room too.
func scribble[T any](l []T, v T) {
	for i := range l[:cap(l)] {
		l[:cap(l)][i] = v
	}
}

func TestCoreHandedInIsOnlyRead(t *testing.T) {
	for _, x := range calls {
		for i, c := range roomy() {
			before := slices.Clone(c.Lines[:5])
			out, said, did := x.do(c)
			scribble(out.Lines, api.Line{Value: 77})
			scribble(said, api.Msg{Value: 77})
			scribble(did, api.Done{Value: 77})
			if !slices.Equal(c.Lines[:5], before) {
				t.Errorf("%s, core %d: what was handed in is changed: %v", x.name, i, c.Lines[:5])
			}
		}
	}
}

func TestCoreHandedInIsNotKept(t *testing.T) {
	for _, x := range calls {
		for i, c := range roomy() {
			out, said, did := x.do(c)
			lines, msgs, ops := slices.Clone(out.Lines), slices.Clone(said), slices.Clone(did)
			scribble(c.Lines, api.Line{Value: 77})
			if !slices.Equal(out.Lines, lines) || !slices.Equal(said, msgs) || !slices.Equal(did, ops) {
				t.Errorf("%s, core %d: kept: %v, %v, %v", x.name, i, out, said, did)
			}
		}
	}
}

// The same arguments, the same answer: also behind other calls, and with other spare room.
func TestAnswersHangOnArgumentsAlone(t *testing.T) {
	for _, x := range calls {
		for i, c := range roomy() {
			out, said, did := x.do(c)
			for _, y := range calls {
				y.do(c)
			}
			out2, said2, did2 := x.do(api.Core{Lines: slices.Clip(slices.Clone(c.Lines)), Wait: c.Wait})
			if !same(out, out2) || !reflect.DeepEqual(said, said2) || !reflect.DeepEqual(did, did2) {
				t.Errorf("%s, core %d: %v, %v, %v, then %v, %v, %v", x.name, i, out, said, did, out2, said2, did2)
			}
		}
	}
}
