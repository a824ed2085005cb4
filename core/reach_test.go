package core_test

import (
	"fmt"
	"math"
	"reflect"
	"slices"
	"testing"

	"sharedhearth/api"
	"sharedhearth/core"
)

// someMessages are of the home's kinds, with serials and turns near those of c's lines.
func someMessages(c api.Core) []api.Msg {
	var out []api.Msg
	for at, l := range c.Lines {
		for _, turn := range []int{l.Seen, l.Seen + 1, l.Gave, 0} {
			for _, kind := range []int{api.MsgInv, api.MsgFetchS, api.MsgFetchX} {
				out = append(out, api.Msg{Kind: kind, Line: at, Turn: turn})
			}
		}
		for _, serial := range []int{l.Serial - 1, l.Serial, l.Serial + 1} {
			for _, alone := range []bool{false, true} {
				out = append(out, api.Msg{Kind: api.MsgGrant, Line: at, Serial: serial, Turn: l.Seen + 1, Value: 250, Alone: alone})
			}
			out = append(out, api.Msg{Kind: api.MsgTaken, Line: at, Serial: serial})
		}
	}
	return out
}

func someOps(c api.Core) []api.Op {
	var out []api.Op
	for at := range c.Lines {
		out = append(out, op(api.OpLoad, at, 0), op(api.OpStore, at, 3), op(api.OpAdd, at, 10), op(api.OpEvict, at, 0))
	}
	return out
}

// reach is each core that comes of a new one by so many operations and messages at most.
func reach(lines, steps int) []api.Core {
	list := []api.Core{core.New(lines)}
	known := map[string]int{fmt.Sprint(list[0]): 1}
	add := func(c api.Core) {
		if k := fmt.Sprint(c); known[k] == 0 {
			known[k] = 1
			list = append(list, c)
		}
	}
	from := 0
	for range steps {
		to := len(list)
		for _, c := range list[from:to] {
			for _, o := range someOps(c) {
				if next, _, _, err := core.Begin(c, me, home, o); err == api.OK {
					add(next)
				}
			}
			for _, m := range someMessages(c) {
				next, _, _ := core.Hear(c, me, home, m)
				add(next)
			}
		}
		from = to
	}
	return list
}

func eachReached(t *testing.T, check func(t *testing.T, c api.Core)) {
	for _, x := range []struct{ lines, steps int }{{1, 6}, {2, 4}} {
		list := reach(x.lines, x.steps)
		if len(list) < 100 {
			t.Errorf("%d lines: only %d cores", x.lines, len(list))
		}
		for _, c := range list {
			check(t, c)
		}
	}
}

// Just the line of the operation that waits asks, for what that operation needs; just one that gives back is Leaving.
func TestWhatWaitsIsWhatIsAsked(t *testing.T) {
	eachReached(t, func(t *testing.T, c api.Core) {
		for i, l := range c.Lines {
			want := 0
			if c.Wait.Line == i {
				want = []int{0, api.MsgGetS, api.MsgGetX, api.MsgGetX, api.MsgPut}[c.Wait.Kind]
			}
			if l.Want != want || (l.State == api.Leaving) != (want == api.MsgPut) {
				t.Errorf("line %d of %v", i, c)
			}
			if l.State == api.Nothing && l.Value != 0 {
				t.Errorf("line %d of %v: nothing has a value", i, c)
			}
		}
	})
}

// Twice is once: the second time the core is as it was, nothing is done, and the same is said.
func TestTwiceIsOnce(t *testing.T) {
	eachReached(t, func(t *testing.T, c api.Core) {
		for _, m := range someMessages(c) {
			once, said, _ := core.Hear(c, me, home, m)
			twice, again, did := core.Hear(once, me, home, m)
			if !same(once, twice) || !slices.Equal(said, again) || len(did) != 0 {
				t.Errorf("%v, %v: %v, %v, then %v, %v, %v", c, m, once, said, twice, again, did)
			}
		}
	})
}

// What waits is done once, and then waits no more; nothing else is done by hearing.
func TestDoneIsWhatWaited(t *testing.T) {
	eachReached(t, func(t *testing.T, c api.Core) {
		for _, m := range someMessages(c) {
			next, _, did := core.Hear(c, me, home, m)
			if len(did) == 0 && next.Wait == c.Wait {
				continue
			}
			if len(did) != 1 || did[0].Core != me || did[0].Op != c.Wait || next.Wait != (api.Op{}) {
				t.Errorf("%v, %v: %v, %v", c, m, next, did)
			}
		}
	})
}

// Steps make no such cores, and nobody says such things; but it would be a pity to panic, or to look at other lines.
func TestOddCoresAndMessagesDoNotPanic(t *testing.T) {
	numbers := []int{math.MinInt, -1, 0, 1, 3, 256, math.MaxInt}
	for _, n := range numbers {
		for _, k := range numbers {
			c := api.Core{Lines: []api.Line{{State: k, Value: n, Want: k, Serial: n, Seen: k, Gave: n, Given: k}, {}}, Wait: op(k, n, n)}
			core.Timer(c, n, k)
			for kind := -1; kind < 14; kind++ {
				core.Begin(c, n, k, op(kind, 0, 1))
				core.Begin(c, n, k, op(kind, k, n))
				for _, alone := range []bool{false, true} {
					next, _, _ := core.Hear(c, n, k, api.Msg{Kind: kind, Serial: n, Turn: k, Value: n, Alone: alone})
					if !reflect.DeepEqual(next.Lines[1:], c.Lines[1:]) {
						t.Errorf("%v, kind %d: %v", c, kind, next)
					}
				}
			}
		}
	}
}
