package round_test

import (
	"reflect"
	"slices"
	"testing"

	"sharedhearth/api"
	"sharedhearth/check"
	"sharedhearth/chip"
	"sharedhearth/flat"
	"sharedhearth/round"
)

// walk is a chip that goes through steps, and all that is done.
type walk struct {
	chip   api.Chip
	done   []api.Done
	seed   uint32
	crowds bool // frames are there twice, and nodes ask again, more often than they come
}

func newWalk(t *testing.T, cores, lines int, seed uint32) *walk {
	t.Helper()
	return &walk{chip: made(t, cores, lines), seed: seed, crowds: seed%5 == 0}
}

// pick is a number below n, the same ones in turn for each seed.
func (w *walk) pick(n int) int {
	w.seed = w.seed*1664525 + 1013904223
	return int(w.seed>>16) % n
}

// step is one of all that may come to be, if it is not refused; frames that come are the most, but in crowds.
func (w *walk) step() {
	s := api.Step{Node: w.pick(len(w.chip.Cores) + 1), N: w.pick(len(w.chip.Frames) + 1), Bit: w.pick(97)}
	s.Op = api.Op{Kind: 1 + w.pick(4), Line: w.pick(len(w.chip.Home)), Value: w.pick(256)}
	kinds := []int{api.StepOp, api.StepOp, api.StepOp, api.StepDrop, api.StepTwice, api.StepSpoil, api.StepTimer, api.StepTimer}
	for range len(kinds) {
		if w.crowds {
			kinds = append(kinds, api.StepTwice, api.StepTimer)
		} else {
			kinds = append(kinds, api.StepGo)
		}
	}
	s.Kind = kinds[w.pick(len(kinds))]
	if x, done, err := chip.Do(w.chip, s); err == api.OK {
		w.chip, w.done = x, append(w.done, done...)
	}
}

// someChips are those that long walks come by.
func someChips(t *testing.T) []api.Chip {
	var out []api.Chip
	for seed := range uint32(24) {
		w := newWalk(t, 1+int(seed%4), 1+int(seed/6), seed)
		for i := range 200 {
			w.step()
			if i%10 == 0 {
				out = append(out, w.chip)
			}
		}
	}
	return out
}

// waiting is how many operations wait.
func waiting(x api.Chip) int {
	n := 0
	for _, c := range x.Cores {
		if c.Wait.Kind != 0 {
			n++
		}
	}
	return n
}

// All that is asked is done, as if memory were one, in fewer rounds than Most, and not one more than is needed.
func TestAllThatIsAskedIsDone(t *testing.T) {
	most, waited := 0, 0
	for seed := range uint32(200) {
		w := newWalk(t, 1+int(seed%4), 1+int(seed/4%4), seed)
		for range 20 {
			for range 20 {
				w.step()
			}
			x, done, n := round.Settle(w.chip)
			if !check.Calm(x) || check.Wrong(x) != api.OK || len(done) != waiting(w.chip) {
				t.Fatalf("seed %d: done are %v, %v settles as %v", seed, done, w.chip, x)
			}
			w.fair(t, x, done, n)
			most, waited = max(most, n), waited+len(done)
			if w.pick(2) == 0 {
				w.chip, w.done = x, append(w.done, done...)
			}
			if _, at := flat.Play(len(x.Home), w.done); at != -1 {
				t.Fatalf("seed %d: operation %d of %v", seed, at, w.done)
			}
		}
	}
	// Walks behind which little is left to do would tell little.
	if most < 10 || most >= round.Most(1) || waited < 1000 {
		t.Errorf("at most %d rounds, %d operations were waited for", most, waited)
	}
}

// fair is that x and done come of just those rounds: there is something to wait for ahead of each of them, and nothing behind.
func (w *walk) fair(t *testing.T, x api.Chip, done []api.Done, n int) {
	t.Helper()
	y, all := w.chip, []api.Done(nil)
	for i := range n {
		if calmed(y) {
			t.Fatalf("%d rounds, and only %d were needed: %v", n, i, w.chip)
		}
		next, did := round.One(y)
		y, all = next, append(all, did...)
	}
	if !calmed(y) {
		t.Fatalf("%d rounds are too few: %v", n, w.chip)
	}
	for len(y.Frames) > 0 {
		next, did := after(t, y, goes(0))
		y, all = next, append(all, did...)
	}
	is(t, "Settle", x, y, done, all)
}

// All comes home, and nothing is lost: no core has any line then, and the home's values are those of memory that is one.
func TestAllComesHome(t *testing.T) {
	for seed := range uint32(200) {
		w := newWalk(t, 1+int(seed%4), 1+int(seed/4%4), seed)
		for range 150 {
			w.step()
		}
		x, done := round.Home(w.chip)
		_, first, _ := round.Settle(w.chip)
		if want := append(first, evictions(x)...); !slices.Equal(done, want) {
			t.Fatalf("seed %d: done are %v, not %v", seed, done, want)
		}
		memory, at := flat.Play(len(x.Home), append(w.done, done...))
		if at != -1 || !check.Calm(x) || check.Wrong(x) != api.OK {
			t.Fatalf("seed %d: operation %d of %v, %v", seed, at, append(w.done, done...), x)
		}
		for i, e := range x.Home {
			if e.Value != memory[i] || e.Owner != -1 {
				t.Errorf("seed %d: line %d: %v, not %d", seed, i, e, memory[i])
			}
		}
		for _, c := range x.Cores {
			for _, l := range c.Lines {
				if l.State != api.Nothing || l.Value != 0 || l.Want != 0 {
					t.Errorf("seed %d: a core still has %v", seed, l)
				}
			}
		}
	}
}

// roomy is a copy of x with spare room behind all of its lists.
func roomy(x api.Chip) api.Chip {
	x = plain(x)
	for i, c := range x.Cores {
		x.Cores[i].Lines = spare(c.Lines, api.Line{Value: 66})
	}
	for i, e := range x.Home {
		x.Home[i].Last = spare(e.Last, 66)
	}
	for i, b := range x.Frames {
		x.Frames[i] = spare(b, 66)
	}
	x.Cores = spare(x.Cores, api.Core{Lines: []api.Line{{Value: 66}}, Wait: api.Op{Kind: 1}})
	x.Home = spare(x.Home, api.Entry{Phase: api.Clearing, Last: []int{66}})
	x.Frames = spare(x.Frames, []byte{66})
	return x
}

func spare[T any](l []T, v T) []T {
	return append(slices.Clip(l), v, v)[:len(l)]
}

func all[T any](l []T) []T { return l[:cap(l)] }

// whole is a copy of x with its spare room.
func whole(x api.Chip) api.Chip {
	x.Cores, x.Home, x.Frames = slices.Clone(all(x.Cores)), slices.Clone(all(x.Home)), slices.Clone(all(x.Frames))
	for i, c := range x.Cores {
		x.Cores[i].Lines = all(c.Lines)
	}
	for i, e := range x.Home {
		x.Home[i].Last = all(e.Last)
	}
	for i, b := range x.Frames {
		x.Frames[i] = all(b)
	}
	return plain(x)
}

// scribble writes over all of x, its spare room too.
func scribble(x api.Chip) {
	for _, c := range all(x.Cores) {
		fill(c.Lines, api.Line{Value: 77, Serial: 77})
	}
	for _, e := range all(x.Home) {
		fill(e.Last, 77)
	}
	for _, b := range all(x.Frames) {
		fill(b, 77)
	}
	fill(x.Cores, api.Core{Wait: api.Op{Kind: 77}})
	fill(x.Home, api.Entry{Value: 77})
	fill(x.Frames, []byte{77})
}

func fill[T any](l []T, v T) {
	for i := range all(l) {
		all(l)[i] = v
	}
}

// calls are those that answer a chip.
func calls() []func(x api.Chip) (api.Chip, []api.Done) {
	settle := func(x api.Chip) (api.Chip, []api.Done) {
		y, done, _ := round.Settle(x)
		return y, done
	}
	return []func(x api.Chip) (api.Chip, []api.Done){round.One, settle, round.Home}
}

// What is handed in is only read, what is answered is new memory, also if there was nothing to do, and it is the same each time.
func TestMemoryHandedInAndAnswered(t *testing.T) {
	settled, _, _ := round.Settle(having(t, made(t, 3, 2), op(1, api.OpStore, 1, 5)))
	for _, x := range append(someChips(t), made(t, 2, 2), settled) {
		for i, call := range calls() {
			in := roomy(x)
			before := whole(in)
			out, done := call(in)
			if !reflect.DeepEqual(whole(in), before) {
				t.Fatalf("call %d: what was handed in is changed: %v", i, in)
			}
			again, doneAgain := call(x)
			is(t, "again", again, out, doneAgain, done)

			kept, keptDone := plain(out), slices.Clone(done)
			scribble(in)
			is(t, "what was answered ahead", out, kept, done, keptDone)
			in = roomy(x)
			out, done = call(in)
			scribble(out)
			fill(done, api.Done{Value: 77})
			if !reflect.DeepEqual(whole(in), before) {
				t.Fatalf("call %d: an answer shares memory with what was handed in", i)
			}
			after, doneAfter := call(x)
			is(t, "after", after, again, doneAfter, doneAgain)
		}
	}
}
