package round_test

import (
	"slices"
	"testing"

	"sharedhearth/api"
	"sharedhearth/round"
)

// evictions are those of all lines of all cores, core by core, line by line.
func evictions(x api.Chip) []api.Done {
	var out []api.Done
	for core := range x.Cores {
		for line := range x.Home {
			out = append(out, did(core, api.OpEvict, line, 0, 0))
		}
	}
	return out
}

// All comes home: what is alone, what is a copy, and what is asked for only.
func TestHome(t *testing.T) {
	x := having(t, made(t, 3, 2), op(2, api.OpStore, 0, 8), goes(0), goes(0), goes(0), op(2, api.OpAdd, 0, 3))
	x = having(t, x, op(1, api.OpLoad, 1, 0), goes(0), goes(0), goes(0), op(0, api.OpAdd, 1, 6), drop(0))
	y, done := round.Home(x)
	wantDone := append([]api.Done{did(0, api.OpAdd, 1, 6, 0)}, evictions(x)...)

	want := made(t, 3, 2)
	want.Cores[0].Lines[1] = api.Line{Serial: 2, Seen: 2}
	want.Cores[1].Lines[1] = api.Line{Serial: 1, Seen: 2}
	want.Cores[2].Lines[0] = api.Line{Serial: 2, Seen: 1}
	want.Home[0].Value, want.Home[0].Turn, want.Home[0].Last[2] = 11, 1, 2
	want.Home[1].Value, want.Home[1].Turn = 6, 2
	want.Home[1].Last = []int{2, 1, 0}
	is(t, "Home", y, want, done, wantDone)
}

// What was done ahead of giving back is told ahead of it, and once.
func TestHomeSettlesFirst(t *testing.T) {
	x := having(t, made(t, 2, 1), op(0, api.OpStore, 0, 4), op(1, api.OpAdd, 0, 5))
	y, done := round.Home(x)
	settled, first, _ := round.Settle(x)
	if !slices.Equal(first, []api.Done{did(0, api.OpStore, 0, 4, 0), did(1, api.OpAdd, 0, 5, 4)}) {
		t.Errorf("Settle: done are %v", first)
	}
	if !slices.Equal(done, append(slices.Clone(first), evictions(x)...)) {
		t.Errorf("Home: done are %v", done)
	}
	if y.Home[0].Value != 9 || settled.Home[0].Owner != 1 || len(y.Frames) != 0 {
		t.Errorf("%v, at last %v", settled, y)
	}
}

// A core whose line has had all its serials can't give it back: the others are given back all the same.
func TestHomeWhatIsRefused(t *testing.T) {
	x := having(t, made(t, 2, 2), op(0, api.OpStore, 0, 4), goes(0), goes(0), goes(0), op(0, api.OpStore, 1, 5), goes(0), goes(0), goes(0))
	x.Cores[0].Lines[0].Serial, x.Home[0].Last[0] = api.MaxNumber, api.MaxNumber
	want := plain(x)
	want.Cores[0].Lines[1] = api.Line{Serial: 2, Seen: 1}
	want.Home[1].Owner, want.Home[1].Value, want.Home[1].Last[0] = -1, 5, 2
	y, done := round.Home(x)
	is(t, "Home", y, want, done, evictions(x)[1:])
}

// A core that waits for ever gives nothing back, but the others do, and what is on the way stays there.
func TestHomeBesideWhatIsEndless(t *testing.T) {
	x := having(t, made(t, 2, 2), op(0, api.OpStore, 1, 4), goes(0), goes(0), goes(0))
	x.Home[0].Turn, x.Home[0].Owner, x.Home[0].Last[1] = api.MaxNumber, 1, 3
	x.Cores[1].Lines[0] = api.Line{State: api.Alone, Value: 6, Serial: 3, Seen: api.MaxNumber}
	x = having(t, x, op(0, api.OpLoad, 0, 0))
	want := plain(x)
	want.Cores[1].Lines[0] = api.Line{Serial: 4, Seen: api.MaxNumber}
	want.Home[0].Owner, want.Home[0].Value, want.Home[0].Last[1] = -1, 6, 4
	y, done := round.Home(x)
	is(t, "Home", y, want, done, evictions(x)[2:])
}
