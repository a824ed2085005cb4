package chip_test

import (
	"math"
	"reflect"
	"slices"
	"testing"

	"sharedhearth/api"
	"sharedhearth/chip"
	"sharedhearth/frame"
)

// numbers are those near the limits of a chip, and those far away.
var numbers = []int{math.MinInt, -256, -1, 0, 1, 2, 3, 4, 5, 6, 256, 257, math.MaxInt32, math.MaxInt}

func made(t *testing.T, cores, lines int) api.Chip {
	t.Helper()
	x, err := chip.New(api.Config{Cores: cores, Lines: lines})
	if err != api.OK {
		t.Fatalf("New of %d cores, %d lines: error %d", cores, lines, err)
	}
	return x
}

// plain is x with nil for each list that has no entries: the document holds both for the same.
func plain(x api.Chip) api.Chip {
	var out api.Chip
	for _, c := range x.Cores {
		out.Cores = append(out.Cores, api.Core{Lines: append([]api.Line(nil), c.Lines...), Wait: c.Wait})
	}
	for _, e := range x.Home {
		e.Last = append([]int(nil), e.Last...)
		out.Home = append(out.Home, e)
	}
	for _, b := range x.Frames {
		out.Frames = append(out.Frames, append([]byte(nil), b...))
	}
	return out
}

func same(x, y api.Chip) bool {
	return reflect.DeepEqual(plain(x), plain(y))
}

func TestWrongAndNew(t *testing.T) {
	for _, cores := range numbers {
		for _, lines := range numbers {
			c := api.Config{Cores: cores, Lines: lines}
			want := api.ErrRange
			if 1 <= cores && cores <= 4 && 1 <= lines && lines <= 4 {
				want = api.OK
			}
			if got := chip.Wrong(c); got != want {
				t.Errorf("Wrong(%v) = %d", c, got)
			}
			x, err := chip.New(c)
			if err != want {
				t.Errorf("New(%v): error %d", c, err)
			}
			if err != api.OK && !same(x, api.Chip{}) {
				t.Errorf("New(%v): %v beside an error", c, x)
			}
		}
	}
}

func TestNewChip(t *testing.T) {
	for cores := 1; cores <= api.MaxCores; cores++ {
		for lines := 1; lines <= api.MaxLines; lines++ {
			var want api.Chip
			for range cores {
				want.Cores = append(want.Cores, api.Core{Lines: make([]api.Line, lines)})
			}
			for range lines {
				want.Home = append(want.Home, api.Entry{Owner: -1, Last: make([]int, cores)})
			}
			if got := made(t, cores, lines); !same(got, want) {
				t.Errorf("New of %d cores, %d lines: %v", cores, lines, got)
			}
		}
	}
}

func TestConfig(t *testing.T) {
	for cores := 1; cores <= api.MaxCores; cores++ {
		for lines := 1; lines <= api.MaxLines; lines++ {
			want := api.Config{Cores: cores, Lines: lines}
			if got := chip.Config(made(t, cores, lines)); got != want {
				t.Errorf("Config of a chip of kind %v: %v", want, got)
			}
		}
	}
	if got := chip.Config(api.Chip{}); got != (api.Config{}) {
		t.Errorf("Config of nothing: %v", got)
	}
}

func TestNewIsNewEachTime(t *testing.T) {
	x, y := made(t, 3, 2), made(t, 3, 2)
	scribble(x)
	if !same(y, made(t, 3, 2)) {
		t.Errorf("memory is shared: %v", y)
	}
}

func TestOwn(t *testing.T) {
	for _, x := range append(someChips(t), api.Chip{}, api.Chip{Cores: []api.Core{}, Home: []api.Entry{}, Frames: [][]byte{}}) {
		if got := chip.Own(x); !same(got, x) {
			t.Errorf("Own(%v) = %v", x, got)
		}
	}
}

// someChips are those that a long walk comes by: with lines in all states, and frames of all kinds, also spoilt ones.
func someChips(t *testing.T) []api.Chip {
	var out []api.Chip
	for seed := range uint32(12) {
		w := newWalk(t, 1+int(seed%4), 1+int(seed/4), seed)
		for i := range 200 {
			w.step()
			if i%10 == 0 {
				out = append(out, w.chip)
			}
		}
	}
	return out
}

// someSteps are of each kind, refused ones among them.
func someSteps(x api.Chip) []api.Step {
	out := []api.Step{{}, {Kind: 7}}
	for node := -1; node <= len(x.Cores)+1; node++ {
		out = append(out, api.Step{Kind: api.StepTimer, Node: node})
		for kind := 0; kind <= 5; kind++ {
			out = append(out, api.Step{Kind: api.StepOp, Node: node, Op: api.Op{Kind: kind, Line: len(x.Home) - 1, Value: 3}})
		}
	}
	for n := -1; n <= len(x.Frames); n++ {
		for kind := api.StepGo; kind <= api.StepSpoil; kind++ {
			out = append(out, api.Step{Kind: kind, N: n, Bit: 50})
		}
	}
	return out
}

// roomy is x with spare room behind all of its lists.
func roomy(x api.Chip) api.Chip {
	x = plain(x)
	for i, c := range x.Cores {
		x.Cores[i].Lines = spare(c.Lines, api.Line{Value: 66})
	}
	for i, e := range x.Home {
		x.Home[i].Last = spare(e.Last, 66)
	}
	for i, b := range x.Frames {
		x.Frames[i] = spare(b, 66)
	}
	x.Cores = spare(x.Cores, api.Core{Lines: []api.Line{{Value: 66}}})
	x.Home = spare(x.Home, api.Entry{Last: []int{66}})
	x.Frames = spare(x.Frames, []byte{66})
	return x
}

func spare[T any](l []T, v T) []T {
	return append(slices.Clip(l), v, v)[:len(l)]
}

// whole is x with its spare room, as a new chip.
func whole(x api.Chip) api.Chip {
	x.Cores, x.Home, x.Frames = slices.Clone(all(x.Cores)), slices.Clone(all(x.Home)), slices.Clone(all(x.Frames))
	for i, c := range x.Cores {
		x.Cores[i].Lines = all(c.Lines)
	}
	for i, e := range x.Home {
		x.Home[i].Last = all(e.Last)
	}
	for i, b := range x.Frames {
		x.Frames[i] = all(b)
	}
	return plain(x)
}

func all[T any](l []T) []T { return l[:cap(l)] }

// scribble writes over all of x, its spare room too.
func scribble(x api.Chip) {
	for _, c := range all(x.Cores) {
		fill(c.Lines, api.Line{Value: 77, Serial: 77})
	}
	for _, e := range all(x.Home) {
		fill(e.Last, 77)
	}
	for _, b := range all(x.Frames) {
		fill(b, 77)
	}
	fill(x.Cores, api.Core{Wait: api.Op{Kind: 77}})
	fill(x.Home, api.Entry{Value: 77})
	fill(x.Frames, []byte{77})
}

func fill[T any](l []T, v T) {
	for i := range all(l) {
		all(l)[i] = v
	}
}

// eachCall has Own, and Do of each of some steps, called with a chip of its own, with spare room.
func eachCall(t *testing.T, check func(name any, x, out api.Chip, done []api.Done)) {
	for _, x := range someChips(t) {
		in := roomy(x)
		check("Own", in, chip.Own(in), nil)
		for _, s := range someSteps(x) {
			in := roomy(x)
			out, done, _ := chip.Do(in, s)
			check(s, in, out, done)
		}
	}
}

func TestChipHandedInIsOnlyRead(t *testing.T) {
	for _, x := range someChips(t) {
		for _, s := range someSteps(x) {
			in := roomy(x)
			before := whole(in)
			out, done, _ := chip.Do(in, s)
			if !same(whole(in), before) {
				t.Fatalf("%v: what was handed in is changed: %v", s, in)
			}
			scribble(out)
			fill(done, api.Done{Value: 77})
			if !same(whole(in), before) {
				t.Fatalf("%v: what is answered shares memory with what was handed in: %v", s, in)
			}
		}
	}
}

func TestChipHandedInIsNotKept(t *testing.T) {
	eachCall(t, func(name any, x, out api.Chip, done []api.Done) {
		before, did := plain(out), slices.Clone(done)
		scribble(x)
		if !same(out, before) || !slices.Equal(done, did) {
			t.Fatalf("%v: kept: %v, %v", name, out, done)
		}
	})
}

// No two lists of one answer share any memory.
func TestListsOfAnAnswerAreApart(t *testing.T) {
	eachCall(t, func(name any, _, out api.Chip, _ []api.Done) {
		want := plain(out)
		for i := range out.Cores {
			fill(out.Cores[i].Lines, api.Line{Value: 77})
			out.Cores[i].Lines = want.Cores[i].Lines
		}
		for i := range out.Home {
			fill(out.Home[i].Last, 77)
			out.Home[i].Last = want.Home[i].Last
		}
		for i := range out.Frames {
			fill(out.Frames[i], 77)
			out.Frames[i] = want.Frames[i]
		}
		if !same(out, want) {
			t.Fatalf("%v: lists are not apart: %v", name, out)
		}
	})
}

// The same arguments, the same answer: also behind other calls, and with other spare room.
func TestAnswersHangOnArgumentsAlone(t *testing.T) {
	for _, x := range someChips(t) {
		for _, s := range someSteps(x) {
			out, done, err := chip.Do(x, s)
			out2, done2, err2 := chip.Do(roomy(x), s)
			if !same(out, out2) || !slices.Equal(done, done2) || err != err2 {
				t.Fatalf("%v: %v, %v, %d, then %v, %v, %d", s, out, done, err, out2, done2, err2)
			}
		}
	}
}

// Beside an error all else is zero.
func TestNothingBesideAnError(t *testing.T) {
	errs := map[api.Errno]int{}
	for _, x := range someChips(t) {
		for _, s := range someSteps(x) {
			out, done, err := chip.Do(x, s)
			errs[err]++
			if err != api.OK && (!same(out, api.Chip{}) || len(done) > 0) {
				t.Fatalf("%v: error %d, and %v, %v", s, err, out, done)
			}
		}
	}
	for _, err := range []api.Errno{api.OK, api.ErrKind, api.ErrNone, api.ErrFit, api.ErrBusy} {
		if errs[err] == 0 {
			t.Errorf("error %d never came", err)
		}
	}
}

// Steps make no such chips; but it would be a pity to panic.
func TestOddChipsDoNotPanic(t *testing.T) {
	b := frame.Bytes(api.Msg{Kind: api.MsgGetS, From: 0, To: 1, Serial: 1})
	to := frame.Bytes(api.Msg{Kind: api.MsgInv, From: 1, To: 0, Turn: 1})
	frames := [][]byte{nil, {}, {1}, b, to, b[:11], append(slices.Clip(b), 0)}
	for _, x := range []api.Chip{
		{},
		{Frames: frames},
		{Cores: make([]api.Core, 1), Frames: frames},
		{Cores: make([]api.Core, 1), Home: make([]api.Entry, 1), Frames: frames},
		{Cores: make([]api.Core, 70), Home: make([]api.Entry, 300), Frames: frames},
		{Home: make([]api.Entry, 2), Frames: frames},
	} {
		chip.Own(x)
		for _, s := range someSteps(x) {
			chip.Do(x, s)
		}
	}
}
