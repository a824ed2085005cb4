package round_test

import (
	"math"
	"reflect"
	"slices"
	"testing"

	"sharedhearth/api"
	"sharedhearth/check"
	"sharedhearth/chip"
	"sharedhearth/frame"
	"sharedhearth/round"
)

func made(t *testing.T, cores, lines int) api.Chip {
	t.Helper()
	x, err := chip.New(api.Config{Cores: cores, Lines: lines})
	if err != api.OK {
		t.Fatalf("New of %d cores, %d lines: error %d", cores, lines, err)
	}
	return x
}

// after is x behind steps of which none may be refused, and what is done by them.
func after(t *testing.T, x api.Chip, steps ...api.Step) (api.Chip, []api.Done) {
	t.Helper()
	var done []api.Done
	for _, s := range steps {
		y, did, err := chip.Do(x, s)
		if err != api.OK {
			t.Fatalf("%v of %v: error %d", s, x, err)
		}
		x, done = y, append(done, did...)
	}
	return x, done
}

// having is as after, without what is done.
func having(t *testing.T, x api.Chip, steps ...api.Step) api.Chip {
	t.Helper()
	x, _ = after(t, x, steps...)
	return x
}

func op(node, kind, line, value int) api.Step {
	return api.Step{Kind: api.StepOp, Node: node, Op: api.Op{Kind: kind, Line: line, Value: value}}
}

func goes(n int) api.Step        { return api.Step{Kind: api.StepGo, N: n} }
func drop(n int) api.Step        { return api.Step{Kind: api.StepDrop, N: n} }
func twice(n int) api.Step       { return api.Step{Kind: api.StepTwice, N: n} }
func spoils(n, bit int) api.Step { return api.Step{Kind: api.StepSpoil, N: n, Bit: bit} }
func timer(node int) api.Step    { return api.Step{Kind: api.StepTimer, Node: node} }

// did is what a core has done.
func did(core, kind, line, value, told int) api.Done {
	return api.Done{Core: core, Op: api.Op{Kind: kind, Line: line, Value: value}, Value: told}
}

// way is these messages, on the way.
func way(l ...api.Msg) [][]byte {
	var out [][]byte
	for _, m := range l {
		out = append(out, frame.Bytes(m))
	}
	return out
}

// plain is x with nil for each list that has no entries: the document holds both for the same.
func plain(x api.Chip) api.Chip {
	var out api.Chip
	for _, c := range x.Cores {
		out.Cores = append(out.Cores, api.Core{Lines: append([]api.Line(nil), c.Lines...), Wait: c.Wait})
	}
	for _, e := range x.Home {
		e.Last = append([]int(nil), e.Last...)
		out.Home = append(out.Home, e)
	}
	for _, b := range x.Frames {
		out.Frames = append(out.Frames, append([]byte(nil), b...))
	}
	return out
}

// is tells of a chip, and of what is done on the way to it, that they are as they must be.
func is(t *testing.T, name string, got, want api.Chip, done, wantDone []api.Done) {
	t.Helper()
	if !reflect.DeepEqual(plain(got), plain(want)) {
		t.Errorf("%s:\n%v, want\n%v", name, got, want)
	}
	if !slices.Equal(done, wantDone) {
		t.Errorf("%s: done are %v, want %v", name, done, wantDone)
	}
}

// settles is that x settles in so many rounds, by which that is done, and answers the chip then.
func settles(t *testing.T, name string, x api.Chip, rounds int, wantDone ...api.Done) api.Chip {
	t.Helper()
	y, done, n := round.Settle(x)
	if n != rounds || !slices.Equal(done, wantDone) {
		t.Errorf("%s: %d rounds, done are %v; want %d, %v", name, n, done, rounds, wantDone)
	}
	return y
}

func TestMost(t *testing.T) {
	for cores, want := range []int{12, 24, 36, 48, 60, 72} {
		if got := round.Most(cores); got != want {
			t.Errorf("Most(%d) = %d, want %d", cores, got, want)
		}
	}
	// Numbers of no chip: as the sum has it, with Go's wrap-round.
	for _, cores := range []int{math.MinInt, -2, -1, 1000, math.MaxInt} {
		if got := round.Most(cores); got != 12*cores+12 {
			t.Errorf("Most(%d) = %d", cores, got)
		}
	}
}

// A round step by step: what is said in it comes in the next one.
func TestOneByOne(t *testing.T) {
	ask := api.Msg{Kind: api.MsgGetX, From: 1, To: 2, Line: 1, Serial: 1}
	grant := api.Msg{Kind: api.MsgGrant, From: 2, To: 1, Line: 1, Serial: 1, Turn: 1, Alone: true}
	thanks := api.Msg{Kind: api.MsgThanks, From: 1, To: 2, Line: 1, Turn: 1}
	store := []api.Done{did(1, api.OpStore, 1, 7, 0)}

	want := having(t, made(t, 2, 2), op(1, api.OpStore, 1, 7))
	line, e := &want.Cores[1].Lines[1], &want.Home[1]
	step := func(name string, frames [][]byte, wantDone []api.Done) func(x api.Chip) api.Chip {
		return func(x api.Chip) api.Chip {
			t.Helper()
			y, done := round.One(x)
			want.Frames = frames
			is(t, name, y, want, done, wantDone)
			return y
		}
	}

	x := having(t, want, drop(0))
	x = step("the core asks again", way(ask), nil)(x)

	e.Phase, e.For, e.Serial, e.Alone, e.Turn, e.Last[1] = api.Granting, 1, 1, true, 1, 1
	x = step("the home grants; the core asks again, the home grants again", way(grant, ask, grant), nil)(x)

	*line = api.Line{State: api.Alone, Value: 7, Serial: 1, Seen: 1}
	want.Cores[1].Wait = api.Op{}
	x = step("it comes, and is thanked for; so is the second one", way(thanks, thanks, grant), store)(x)

	e.Phase, e.For, e.Serial, e.Alone, e.Owner = api.Idle, 0, 0, false, 1
	x = step("the home is thanked", way(thanks), nil)(x)
	x = step("nothing is left", nil, nil)(x)
	step("nothing comes of it", nil, nil)(x)
}

// In a round first come the frames that are there, the first one first; then the cores ask again, and then the home.
func TestOneInTurn(t *testing.T) {
	x := having(t, made(t, 3, 3), op(2, api.OpAdd, 0, 5), goes(0), drop(0))
	x = having(t, x, op(1, api.OpLoad, 1, 0), op(0, api.OpLoad, 2, 0))
	want := having(t, x, goes(0), goes(0), timer(0), timer(1), timer(2), timer(3))
	want.Frames = way(
		api.Msg{Kind: api.MsgGrant, From: 3, To: 1, Line: 1, Serial: 1, Turn: 1},
		api.Msg{Kind: api.MsgGrant, From: 3, To: 0, Line: 2, Serial: 1, Turn: 1},
		api.Msg{Kind: api.MsgGetS, From: 0, To: 3, Line: 2, Serial: 1},
		api.Msg{Kind: api.MsgGetS, From: 1, To: 3, Line: 1, Serial: 1},
		api.Msg{Kind: api.MsgGetX, From: 2, To: 3, Line: 0, Serial: 1},
		api.Msg{Kind: api.MsgGrant, From: 3, To: 2, Line: 0, Serial: 1, Turn: 1, Alone: true},
		api.Msg{Kind: api.MsgGrant, From: 3, To: 1, Line: 1, Serial: 1, Turn: 1},
		api.Msg{Kind: api.MsgGrant, From: 3, To: 0, Line: 2, Serial: 1, Turn: 1},
	)
	got, done := round.One(x)
	is(t, "One", got, want, done, nil)

	// Done is told in turn, too: by frames, not by cores.
	want = having(t, got, goes(0), goes(0), goes(0), goes(0), goes(0), goes(0), goes(0), goes(0), timer(0), timer(1), timer(2), timer(3))
	got, done = round.One(got)
	is(t, "One again", got, want, done, []api.Done{did(1, api.OpLoad, 1, 0, 0), did(0, api.OpLoad, 2, 0, 0), did(2, api.OpAdd, 0, 5, 0)})
}

// roundOf is the steps of a round of x.
func roundOf(x api.Chip) []api.Step {
	out := slices.Repeat([]api.Step{goes(0)}, len(x.Frames))
	for node := range len(x.Cores) + 1 {
		out = append(out, timer(node))
	}
	return out
}

// A round is its steps, also of chips with spoilt frames, and with a full way.
func TestOneIsItsSteps(t *testing.T) {
	full, spoilt := 0, 0
	for _, x := range someChips(t) {
		want, wantDone := after(t, x, roundOf(x)...)
		got, done := round.One(x)
		is(t, "One", got, want, done, wantDone)
		if len(x.Frames) == api.MaxFrames {
			full++
		}
		spoilt += check.Spoilt(x)
	}
	if full == 0 || spoilt == 0 {
		t.Errorf("%d chips with a full way, %d spoilt frames", full, spoilt)
	}
}

// A store, whose asking is lost, is done in fair rounds.
func TestSettleWhatIsLost(t *testing.T) {
	x := having(t, made(t, 2, 2), op(1, api.OpStore, 1, 7), drop(0))
	y := settles(t, "a lost store", x, 4, did(1, api.OpStore, 1, 7, 0))
	want := made(t, 2, 2)
	want.Cores[1].Lines[1] = api.Line{State: api.Alone, Value: 7, Serial: 1, Seen: 1}
	want.Home[1].Owner, want.Home[1].Turn, want.Home[1].Last[1] = 1, 1, 1
	is(t, "a lost store", y, want, nil, nil)
	is(t, "again", settles(t, "again", y, 0), want, nil, nil)
}

// No operation waits, but the home does: for thanks that are lost.
func TestSettleALineThatIsNotIdle(t *testing.T) {
	x := having(t, made(t, 2, 1), op(0, api.OpStore, 0, 7), goes(0), goes(0), drop(0))
	y := settles(t, "lost thanks", x, 3)
	want := made(t, 2, 1)
	want.Cores[0].Lines[0] = api.Line{State: api.Alone, Value: 7, Serial: 1, Seen: 1}
	want.Home[0].Owner, want.Home[0].Turn, want.Home[0].Last[0] = 0, 1, 1
	is(t, "lost thanks", y, want, nil, nil)
}

// All lines are Idle, but an operation waits: of whichever core.
func TestSettleAnOperationThatWaits(t *testing.T) {
	for core := range 4 {
		for kind := api.OpLoad; kind <= api.OpAdd; kind++ {
			x := having(t, made(t, 4, 2), op(core, kind, 1, 3), drop(0))
			settles(t, "lost", x, 4, did(core, kind, 1, 3, 0))
		}
		x := having(t, made(t, 4, 2), op(core, api.OpStore, 1, 3), goes(0), goes(0), goes(0), op(core, api.OpEvict, 1, 0), drop(0))
		y := settles(t, "lost", x, 3, did(core, api.OpEvict, 1, 0, 0))
		if e := y.Home[1]; e.Value != 3 || e.Owner != -1 {
			t.Errorf("core %d: %v", core, e)
		}
	}
}

// Of a chip that has nothing to wait for only what is on the way comes: no node asks again.
func TestSettleWithoutRounds(t *testing.T) {
	x := having(t, made(t, 2, 1), op(0, api.OpStore, 0, 7), goes(0), twice(0), goes(0))
	thanks := having(t, x, goes(0), goes(0)) // the second ones: the first ones have come
	grant := having(t, x, goes(1))           // the second one: the first one is thanked for already
	for _, x := range []api.Chip{thanks, grant, having(t, grant, spoils(0, 17))} {
		if len(x.Frames) != 1 {
			t.Fatalf("not one frame is on the way: %v", x.Frames)
		}
		want := plain(x)
		want.Frames = nil
		is(t, "what is old", settles(t, "what is old", x, 0), want, nil, nil)
	}
}

// What is on the way still comes when no more rounds are needed, but not by rounds.
func TestSettleDrains(t *testing.T) {
	x := having(t, made(t, 3, 2), op(0, api.OpStore, 0, 1), op(1, api.OpStore, 0, 2), op(2, api.OpLoad, 0, 0), drop(0), drop(0), drop(0))
	y, done, n := round.Settle(x)
	z, wantDone := x, []api.Done(nil)
	for i := range n {
		var did []api.Done
		if calmed(z) {
			t.Errorf("only %d rounds were needed, not %d", i, n)
		}
		z, did = round.One(z)
		wantDone = append(wantDone, did...)
	}
	if !calmed(z) || len(z.Frames) == 0 {
		t.Fatalf("this chip does not show it: %v", z)
	}
	z.Frames = nil
	is(t, "Settle", y, z, done, wantDone)
	if len(done) != 3 {
		t.Errorf("done are %v", done)
	}
}

// calmed is whether no operation waits, and all lines are Idle.
func calmed(x api.Chip) bool {
	waits := func(c api.Core) bool { return c.Wait.Kind != 0 }
	busy := func(e api.Entry) bool { return e.Phase != api.Idle }
	return !slices.ContainsFunc(x.Cores, waits) && !slices.ContainsFunc(x.Home, busy)
}

// endless is a chip on which core 0 asks for a line whose turns have all been had: it is never granted.
func endless(t *testing.T, cores int) api.Chip {
	x := made(t, cores, 2)
	x.Home[0].Turn, x.Home[0].Value, x.Home[0].Last[0] = api.MaxNumber, 5, api.MaxNumber-1
	x.Cores[0].Lines[0].Serial = api.MaxNumber - 1
	return having(t, x, op(0, api.OpStore, 0, 9))
}

// What can't be done is given up after Most rounds; what is on the way stays there then.
func TestSettleMost(t *testing.T) {
	ask := api.Msg{Kind: api.MsgGetX, From: 0, Serial: api.MaxNumber}
	for cores := 1; cores <= api.MaxCores; cores++ {
		ask.To = cores
		x := endless(t, cores)
		y := settles(t, "endless", x, 12*cores+12)
		want := plain(x)
		want.Frames = way(ask)
		is(t, "endless", y, want, nil, nil)
	}
}

// Others get done what they ask for beside one that can't be done.
func TestSettleBesideWhatIsEndless(t *testing.T) {
	x := having(t, endless(t, 2), op(1, api.OpAdd, 1, 4))
	y := settles(t, "beside", x, 36, did(1, api.OpAdd, 1, 4, 0))
	if got := y.Cores[1].Lines[1]; got.State != api.Alone || got.Value != 4 {
		t.Errorf("line 1 of core 1: %v", got)
	}
	if len(y.Frames) != 1 {
		t.Errorf("on the way: %v", y.Frames)
	}
}

func TestNewChips(t *testing.T) {
	for cores := 1; cores <= api.MaxCores; cores++ {
		for lines := 1; lines <= api.MaxLines; lines++ {
			x := made(t, cores, lines)
			y, done := round.One(x)
			is(t, "One", y, x, done, nil)
			is(t, "Settle", settles(t, "Settle", x, 0), x, nil, nil)
			y, done = round.Home(x)
			is(t, "Home", y, x, done, evictions(x))
		}
	}
	for _, x := range []api.Chip{{}, {Cores: []api.Core{}, Home: []api.Entry{}, Frames: [][]byte{}}} {
		y, done := round.One(x)
		is(t, "One of nothing", y, x, done, nil)
		is(t, "Settle of nothing", settles(t, "Settle of nothing", x, 0), x, nil, nil)
		y, done = round.Home(x)
		is(t, "Home of nothing", y, x, done, nil)
	}
}

// slow is a chip greater than any that steps make, since those settle long ahead of Most: its core asks for 30 lines that are never granted, and by each two rounds thanks for ten of so many lines that are granted to it.
func slow(lines int) api.Chip {
	x := api.Chip{Cores: make([]api.Core, 1)}
	for range 30 {
		x.Cores[0].Lines = append(x.Cores[0].Lines, api.Line{Want: api.MsgGetS, Serial: 1})
		x.Home = append(x.Home, api.Entry{Owner: -1, Turn: api.MaxNumber, Last: []int{0}})
	}
	for range lines {
		x.Cores[0].Lines = append(x.Cores[0].Lines, api.Line{State: api.Copy, Serial: 1, Seen: 1})
		x.Home = append(x.Home, api.Entry{Owner: -1, Phase: api.Granting, Serial: 1, Turn: 1, Last: []int{1}})
	}
	return x
}

// granting is how many lines are not Idle.
func granting(x api.Chip) int {
	n := 0
	for _, e := range x.Home {
		if e.Phase != api.Idle {
			n++
		}
	}
	return n
}

// What is on the way comes if fewer than Most rounds were needed, and only then.
func TestSettleNearMost(t *testing.T) {
	for _, c := range []struct {
		name                 string
		x                    api.Chip
		rounds, frames, left int
	}{
		{"two fewer", having(t, slow(110), timer(0), timer(1)), 22, 0, 0},
		{"one fewer", slow(110), 23, 0, 0},
		{"just Most", having(t, slow(120), timer(0), timer(1)), 24, 30, 0},
		{"one more", slow(120), 24, 40, 10},
		{"two more", having(t, slow(130), timer(0), timer(1)), 24, 40, 10},
		{"three more", slow(130), 24, 40, 20},
	} {
		y := settles(t, c.name, c.x, c.rounds)
		if len(y.Frames) != c.frames || granting(y) != c.left {
			t.Errorf("%s: %d frames on the way, %d lines are not Idle", c.name, len(y.Frames), granting(y))
		}
	}
}
