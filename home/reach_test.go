package home_test

import (
	"fmt"
	"math"
	"slices"
	"testing"

	"sharedhearth/api"
	"sharedhearth/home"
)

// someMessages are of the cores' kinds, with serials and turns near those of l's lines.
func someMessages(l []api.Entry) []api.Msg {
	var out []api.Msg
	for at, e := range l {
		for core, last := range e.Last {
			for _, serial := range []int{last, last + 1} {
				for _, kind := range []int{api.MsgGetS, api.MsgGetX} {
					out = append(out, api.Msg{Kind: kind, From: core, Line: at, Serial: serial})
				}
				out = append(out, api.Msg{Kind: api.MsgPut, From: core, Line: at, Serial: serial, Value: 9})
			}
			for _, turn := range []int{e.Turn - 1, e.Turn} {
				for _, kind := range []int{api.MsgGone, api.MsgThanks} {
					out = append(out, api.Msg{Kind: kind, From: core, Line: at, Turn: turn})
				}
				out = append(out, api.Msg{Kind: api.MsgData, From: core, Line: at, Turn: turn, Value: 5})
			}
		}
	}
	return out
}

// reach is each home that comes of a new one by so many messages at most.
func reach(cores, lines, steps int) [][]api.Entry {
	list := [][]api.Entry{home.New(cores, lines)}
	known := map[string]int{fmt.Sprint(list[0]): 1}
	from := 0
	for range steps {
		to := len(list)
		for _, l := range list[from:to] {
			for _, m := range someMessages(l) {
				next, _ := home.Hear(l, cores, m)
				if k := fmt.Sprint(next); known[k] == 0 {
					known[k] = 1
					list = append(list, next)
				}
			}
		}
		from = to
	}
	return list
}

func eachReached(t *testing.T, check func(t *testing.T, l []api.Entry)) {
	for _, x := range []struct{ cores, lines, steps int }{{2, 1, 7}, {3, 1, 5}, {2, 2, 4}} {
		list := reach(x.cores, x.lines, x.steps)
		if len(list) < 100 {
			t.Errorf("%d cores, %d lines: only %d homes", x.cores, x.lines, len(list))
		}
		for _, l := range list {
			check(t, l)
		}
	}
}

// fits is whether a line's phase goes with what else it has.
func fits(e api.Entry) bool {
	others := e.Sharers &^ set(e.For)
	switch e.Phase {
	case api.Idle:
		return e.For == 0 && e.Serial == 0 && !e.Alone && e.Need == 0
	case api.Fetching:
		return e.Owner >= 0 && e.Need == 0 && e.Last[e.For] == e.Serial
	case api.Clearing:
		return e.Owner < 0 && e.Alone && e.Need != 0 && e.Need == others && e.Last[e.For] == e.Serial
	case api.Granting:
		return e.Owner < 0 && e.Need == 0 && !(e.Alone && others != 0) && e.Last[e.For] == e.Serial
	}
	return false
}

// Who has a line alone has it alone, and each phase is as the last one left it.
func TestLinesFit(t *testing.T) {
	eachReached(t, func(t *testing.T, l []api.Entry) {
		for i, e := range l {
			if !fits(e) || e.Owner >= 0 && e.Sharers != 0 {
				t.Errorf("line %d of %v", i, l)
			}
		}
	})
}

// Twice is once: the second time the home is as it was, and says nothing, but that it has taken a line back.
func TestTwiceIsOnce(t *testing.T) {
	eachReached(t, func(t *testing.T, l []api.Entry) {
		for _, m := range someMessages(l) {
			once, said := home.Hear(l, 3, m)
			twice, again := home.Hear(once, 3, m)
			fine := len(again) == 0
			if m.Kind == api.MsgPut {
				fine = slices.Equal(again, said)
			}
			if !same(once, twice) || !fine {
				t.Errorf("%v, %v: %v, %v, then %v, %v", l, m, once, said, twice, again)
			}
		}
	})
}

// What a new phase says is what the timer says of that line, and a line says nothing just if it is Idle.
func TestTimerSaysWhatThePhaseSaid(t *testing.T) {
	eachReached(t, func(t *testing.T, l []api.Entry) {
		for i, e := range l {
			if said := home.Timer(l[i:i+1], 3); (len(said) == 0) != (e.Phase == api.Idle) {
				t.Errorf("line %d of %v says %v", i, l, said)
			}
		}
		for _, m := range someMessages(l) {
			next, said := home.Hear(l, 3, m)
			if len(said) == 0 || m.Kind == api.MsgPut {
				continue
			}
			of := func(x api.Msg) bool { return x.Line != m.Line }
			if again := slices.DeleteFunc(home.Timer(next, 3), of); !slices.Equal(said, again) {
				t.Errorf("%v, %v: %v, then %v", l, m, said, again)
			}
		}
	})
}

// Turns and serials only rise, and no other line is touched.
func TestNumbersRise(t *testing.T) {
	eachReached(t, func(t *testing.T, l []api.Entry) {
		for _, m := range someMessages(l) {
			next, _ := home.Hear(l, 3, m)
			for i, e := range next {
				fine := e.Turn >= l[i].Turn
				for core, last := range e.Last {
					fine = fine && last >= l[i].Last[core]
				}
				if !fine || i != m.Line && !same(next[i:i+1], l[i:i+1]) {
					t.Errorf("%v, %v: %v", l, m, next)
				}
			}
		}
	})
}

// Steps make no such homes, and nobody says such things; but it would be a pity to panic, or not to end.
func TestOddHomesAndMessagesDoNotPanic(t *testing.T) {
	numbers := []int{math.MinInt, -1, 0, 1, 3, 64, math.MaxInt}
	for _, n := range numbers {
		for _, k := range numbers {
			for phase := -1; phase < 5; phase++ {
				e := api.Entry{Value: n, Owner: k, Sharers: n, Phase: phase, For: k, Serial: n, Alone: n > k, Turn: k, Need: n, Last: []int{n, k}}
				l := []api.Entry{e, {}}
				home.Timer(l, n)
				for _, kind := range kinds {
					for core := -1; core < 3; core++ {
						next, _ := home.Hear(l, k, api.Msg{Kind: kind, From: core, To: n, Serial: k, Turn: k, Value: n})
						if !same(next[1:], l[1:]) {
							t.Errorf("%v, kind %d: %v", l, kind, next)
						}
						home.Hear(l, k, api.Msg{Kind: kind, From: core, Line: 1, Serial: n, Turn: k, Value: n})
					}
				}
			}
		}
	}
}
