package home_test

import (
	"math"
	"reflect"
	"slices"
	"testing"

	"sharedhearth/api"
	"sharedhearth/home"
)

// The home of these tests is that of four cores, 0 to 3, and so number 4, where a test does not say otherwise.
const id = 4

// odd are numbers that are neither kinds, nor lines, nor cores of a small chip.
var odd = []int{-1, -256, 256, 257, 65536, math.MinInt, math.MaxInt}

// says is a message of the home's, of the middle line.
func says(kind, to, turn int) api.Msg {
	return api.Msg{Kind: kind, From: id, To: to, Line: 1, Turn: turn}
}

// grants is a MsgGrant, of the middle line.
func grants(to, serial, turn, value int, alone bool) api.Msg {
	return api.Msg{Kind: api.MsgGrant, From: id, To: to, Line: 1, Serial: serial, Turn: turn, Value: value, Alone: alone}
}

// takes is a MsgTaken, of the middle line.
func takes(to, serial int) api.Msg {
	return api.Msg{Kind: api.MsgTaken, From: id, To: to, Line: 1, Serial: serial}
}

// set is cores, bit by bit.
func set(cores ...int) int {
	out := 0
	for _, c := range cores {
		out |= 1 << c
	}
	return out
}

// The lines of which the tests start; all of them are in their turn 7, or behind it.
var (
	bare     = api.Entry{Value: 50, Owner: -1, Turn: 7, Last: []int{5, 4, 3, 2}}
	shared   = api.Entry{Value: 50, Owner: -1, Sharers: set(0, 2, 3), Turn: 7, Last: []int{5, 4, 3, 2}}
	owned    = api.Entry{Value: 50, Owner: 2, Turn: 7, Last: []int{5, 4, 3, 2}}
	fetchesS = api.Entry{Value: 50, Owner: 2, Phase: api.Fetching, For: 1, Serial: 4, Turn: 7, Last: []int{5, 4, 3, 2}}
	fetchesX = api.Entry{Value: 50, Owner: 2, Phase: api.Fetching, For: 1, Serial: 4, Alone: true, Turn: 7, Last: []int{5, 4, 3, 2}}
	clears   = api.Entry{Value: 50, Owner: -1, Sharers: set(0, 1, 3), Phase: api.Clearing, For: 1, Serial: 4, Alone: true, Turn: 7, Need: set(0, 3), Last: []int{5, 4, 3, 2}}
	grantsS  = api.Entry{Value: 50, Owner: -1, Sharers: set(0, 3), Phase: api.Granting, For: 1, Serial: 4, Turn: 7, Last: []int{5, 4, 3, 2}}
	grantsX  = api.Entry{Value: 50, Owner: -1, Sharers: set(1), Phase: api.Granting, For: 1, Serial: 4, Alone: true, Turn: 7, Last: []int{5, 4, 3, 2}}
)

// starts are these lines by name.
var starts = []struct {
	name string
	e    api.Entry
}{
	{"bare", bare}, {"shared", shared}, {"owned", owned},
	{"fetches a copy", fetchesS}, {"fetches it", fetchesX}, {"clears", clears}, {"grants a copy", grantsS}, {"grants it", grantsX},
}

// among is a home of three lines, of which the middle one is e; the others tell if they are touched.
func among(e api.Entry) []api.Entry {
	first := api.Entry{Value: 11, Owner: -1, Sharers: set(1, 3), Turn: 7, Last: []int{1, 2, 3, 4}}
	last := api.Entry{Value: 22, Owner: 2, Turn: 8, Last: []int{5, 6, 7, 8}}
	return []api.Entry{first, clone(e), last}
}

func clone(e api.Entry) api.Entry {
	e.Last = slices.Clone(e.Last)
	return e
}

func cloneAll(l []api.Entry) []api.Entry {
	var out []api.Entry
	for _, e := range l {
		out = append(out, clone(e))
	}
	return out
}

func same(a, b []api.Entry) bool {
	return slices.EqualFunc(a, b, func(x, y api.Entry) bool {
		lists := slices.Equal(x.Last, y.Last)
		x.Last, y.Last = nil, nil
		return lists && reflect.DeepEqual(x, y)
	})
}

func TestNew(t *testing.T) {
	for _, cores := range []int{0, 1, 2, 4, 5, 70} {
		for _, lines := range []int{0, 1, 2, 4, 5, 1000} {
			var want []api.Entry
			for range lines {
				want = append(want, api.Entry{Owner: -1, Last: make([]int, cores)})
			}
			if got := home.New(cores, lines); !same(got, want) {
				t.Errorf("New(%d, %d) = %v", cores, lines, got)
			}
		}
	}
}

func TestNewOfFewerThanNone(t *testing.T) {
	for _, n := range []int{-1, -2, math.MinInt} {
		if got := home.New(3, n); len(got) != 0 {
			t.Errorf("New(3, %d) = %v", n, got)
		}
		if got := home.New(n, n); len(got) != 0 {
			t.Errorf("New(%d, %d) = %v", n, n, got)
		}
		if got := home.New(n, 2); !same(got, []api.Entry{{Owner: -1}, {Owner: -1}}) {
			t.Errorf("New(%d, 2) = %v", n, got)
		}
	}
}

// Beyond the limits nothing is promised; but it would be a pity to panic.
func TestNewOfFarTooManyDoesNotPanic(t *testing.T) {
	for _, n := range []int{math.MaxInt, math.MaxInt - 1, math.MaxInt / 8, math.MaxInt32} {
		for _, k := range []int{math.MinInt, 0, 1, 2, n} {
			home.New(k, n)
			home.New(n, k)
		}
	}
}

// No line shares its Last with another one, nor with another answer.
func TestNewIsNewEachTime(t *testing.T) {
	a, b := home.New(2, 2), home.New(2, 2)
	a[1].Value = 7
	scribble(a[1].Last, 77)
	if !same(a[:1], home.New(2, 1)) || !same(b, home.New(2, 2)) {
		t.Errorf("memory is shared: %v, %v", a, b)
	}
}

func TestOwn(t *testing.T) {
	lists := [][]api.Entry{nil, {}, home.New(0, 1), home.New(4, 4), {{}, {}}}
	for _, x := range starts {
		lists = append(lists, among(x.e))
	}
	for _, l := range lists {
		if got := home.Own(l); !same(got, l) {
			t.Errorf("Own(%v) = %v", l, got)
		}
	}
}

func TestTimer(t *testing.T) {
	for _, x := range []struct {
		name string
		l    []api.Entry
		want []api.Msg
	}{
		{"no lines", nil, nil},
		{"a new home", home.New(4, 4), nil},
		{"a line that nobody has", among(bare), nil},
		{"a line of which there are copies", among(shared), nil},
		{"a line that one has alone", among(owned), nil},
		{"fetching, for a copy", among(fetchesS), []api.Msg{says(api.MsgFetchS, 2, 7)}},
		{"fetching, for one alone", among(fetchesX), []api.Msg{says(api.MsgFetchX, 2, 7)}},
		{"clearing", among(clears), []api.Msg{says(api.MsgInv, 0, 7), says(api.MsgInv, 3, 7)}},
		{"granting a copy", among(grantsS), []api.Msg{grants(1, 4, 7, 50, false)}},
		{"granting it alone", among(grantsX), []api.Msg{grants(1, 4, 7, 50, true)}},
	} {
		if got := home.Timer(x.l, id); !slices.Equal(got, x.want) {
			t.Errorf("%s: %v, want %v", x.name, got, x.want)
		}
	}
}

// Each line says its own, in turn, and whoever is in Need is told, from the lowest one on.
func TestTimerOfSeveralLines(t *testing.T) {
	for need := range 16 {
		all := clone(clears)
		all.For, all.Need, all.Sharers = 1, need, need
		want := []api.Msg{grants(1, 4, 7, 50, false)}
		want[0].Line = 0
		for core := range 4 {
			if need>>core&1 == 1 {
				want = append(want, says(api.MsgInv, core, 7))
			}
		}
		fetch := says(api.MsgFetchX, 2, 7)
		fetch.Line = 3
		if got := home.Timer([]api.Entry{grantsS, all, owned, fetchesX}, id); !slices.Equal(got, append(want, fetch)) {
			t.Errorf("need %b: %v", need, got)
		}
	}
}

// What the home says goes from its number, whichever that is.
func TestNumberOfTheHome(t *testing.T) {
	for _, n := range []int{0, 1, 4, -1, math.MinInt, math.MaxInt} {
		l, said := home.Hear(home.New(2, 2), n, api.Msg{Kind: api.MsgGetX, From: 1, To: 2, Line: 1, Serial: 1})
		want := []api.Msg{{Kind: api.MsgGrant, From: n, To: 1, Line: 1, Serial: 1, Turn: 1, Alone: true}}
		if again := home.Timer(l, n); !slices.Equal(said, want) || !slices.Equal(again, want) {
			t.Errorf("home %d says %v, then %v", n, said, again)
		}
		_, said = home.Hear(home.New(2, 2), n, api.Msg{Kind: api.MsgPut, From: 1, To: 2, Line: 1, Serial: 1})
		if !slices.Equal(said, []api.Msg{{Kind: api.MsgTaken, From: n, To: 1, Line: 1, Serial: 1}}) {
			t.Errorf("home %d says %v", n, said)
		}
	}
}

// calls are all that a home does, with what they answer: a home, and what is said.
var calls = []struct {
	name string
	do   func(l []api.Entry) ([]api.Entry, []api.Msg)
}{
	{"own", func(l []api.Entry) ([]api.Entry, []api.Msg) { return home.Own(l), nil }},
	{"timer", func(l []api.Entry) ([]api.Entry, []api.Msg) { return nil, home.Timer(l, id) }},
	{"a copy", hearing(hears(api.MsgGetS, 1, 9, 0, 0))},
	{"alone", hearing(hears(api.MsgGetX, 1, 9, 0, 0))},
	{"back", hearing(hears(api.MsgPut, 2, 9, 0, 33))},
	{"back, and old", hearing(hears(api.MsgPut, 2, 1, 0, 33))},
	{"data", hearing(hears(api.MsgData, 2, 0, 7, 33))},
	{"gone", hearing(hears(api.MsgGone, 0, 0, 7, 0))},
	{"thanks", hearing(hears(api.MsgThanks, 1, 0, 7, 0))},
	{"no such kind", hearing(hears(12, 1, 9, 7, 0))},
	{"no such line", hearing(api.Msg{Kind: api.MsgGetS, Line: 3, Serial: 9})},
	{"no such core", hearing(hears(api.MsgGetS, 4, 9, 0, 0))},
}

func hearing(m api.Msg) func([]api.Entry) ([]api.Entry, []api.Msg) {
	return func(l []api.Entry) ([]api.Entry, []api.Msg) { return home.Hear(l, id, m) }
}

// roomy is a home of three lines, with spare room behind them, and behind their Lasts.
func roomy(e api.Entry) []api.Entry {
	l := append(among(e), clone(grantsS), clone(clears))
	for i := range l {
		l[i].Last = append(l[i].Last, 66, 67)[:4]
	}
	return l[:3]
}

// whole is l with its spare room, and that of its Lasts, as a new list.
func whole(l []api.Entry) []api.Entry {
	var out []api.Entry
	for _, e := range l[:cap(l)] {
		e.Last = slices.Clone(e.Last[:cap(e.Last)])
		out = append(out, e)
	}
	return out
}

// scribble writes over all of l, its spare room too.
func scribble[T any](l []T, v T) {
	for i := range l[:cap(l)] {
		l[:cap(l)][i] = v
	}
}

func scribbleHome(l []api.Entry) {
	for _, e := range l[:cap(l)] {
		scribble(e.Last, 77)
	}
	scribble(l, api.Entry{Value: 77})
}

func TestHomeHandedInIsOnlyRead(t *testing.T) {
	for _, x := range calls {
		for _, s := range starts {
			l := roomy(s.e)
			before := whole(l)
			out, said := x.do(l)
			scribbleHome(out)
			scribble(said, api.Msg{Value: 77})
			if !same(whole(l), before) {
				t.Errorf("%s, %s: what was handed in is changed: %v", x.name, s.name, l)
			}
		}
	}
}

func TestHomeHandedInIsNotKept(t *testing.T) {
	for _, x := range calls {
		for _, s := range starts {
			l := roomy(s.e)
			out, said := x.do(l)
			lines, msgs := cloneAll(out), slices.Clone(said)
			scribbleHome(l)
			if !same(out, lines) || !slices.Equal(said, msgs) {
				t.Errorf("%s, %s: kept: %v, %v", x.name, s.name, out, said)
			}
		}
	}
}

// No two Lasts of one answer share any memory.
func TestLinesOfAnAnswerAreApart(t *testing.T) {
	for _, x := range calls {
		for _, s := range starts {
			out, _ := x.do(roomy(s.e))
			for i := range out {
				others := cloneAll(out)
				scribble(out[i].Last, 77)
				out[i].Last = others[i].Last
				if !same(out, others) {
					t.Errorf("%s, %s: line %d is not alone: %v", x.name, s.name, i, out)
				}
			}
		}
	}
}

// The same arguments, the same answer: also behind other calls, and with other spare room.
func TestAnswersHangOnArgumentsAlone(t *testing.T) {
	for _, x := range calls {
		for _, s := range starts {
			l := roomy(s.e)
			out, said := x.do(l)
			for _, y := range calls {
				y.do(l)
			}
			out2, said2 := x.do(slices.Clip(cloneAll(l)))
			if !same(out, out2) || !slices.Equal(said, said2) {
				t.Errorf("%s, %s: %v, %v, then %v, %v", x.name, s.name, out, said, out2, said2)
			}
		}
	}
}
