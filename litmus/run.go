package litmus

import (
	"sharedhearth/api"
	"sharedhearth/chip"
	"sharedhearth/round"
)

// run is programs that run: the chip as it is by now, what each core's program has not begun yet, and all that is done.
type run struct {
	chip api.Chip
	left [][]api.Op
	done []api.Done
}

// start has a list of its own of what is left, which gets shorter; the programs themselves are only read.
func start(x api.Chip, l [][]api.Op) run {
	left := make([][]api.Op, len(l))
	copy(left, l)
	return run{chip: x, left: left}
}

// pick takes only the lowest 16 bits, so that below 0 there is a rest, too.
func (r *run) pick(n int) {
	low := n & 0xffff
	kind, which := low%8, low/8
	cores, frames := len(r.chip.Cores), len(r.chip.Frames)
	switch {
	case kind < 3:
		r.begin(which % cores)
	case kind < 6 && frames > 0:
		r.do(api.Step{Kind: api.StepGo, N: which % frames})
	case kind == 6 && frames > 0:
		r.do(api.Step{Kind: mishap(which), N: which / 2 % frames})
	default:
		r.do(api.Step{Kind: api.StepTimer, Node: which % (cores + 1)})
	}
}

func mishap(which int) int {
	if which%2 == 0 {
		return api.StepDrop
	}
	return api.StepTwice
}

// begin leaves the operation to be begun later if it is refused: each core in its own order.
func (r *run) begin(core int) {
	l := r.left[core]
	if len(l) == 0 {
		return
	}
	if err := r.do(op(core, l[0])); err == api.OK {
		r.left[core] = l[1:]
	}
}

// finish has what is left of that core's program done.
func (r *run) finish(core int) {
	r.settle()
	for _, o := range r.left[core] {
		// Nothing waits any more, and so few operations leave serials enough: it is not refused.
		r.do(op(core, o))
		r.settle()
	}
}

func (r *run) settle() {
	x, done, _ := round.Settle(r.chip)
	r.chip = x
	r.done = append(r.done, done...)
}

// do leaves the chip as it is if the step is refused.
func (r *run) do(s api.Step) api.Errno {
	x, done, err := chip.Do(r.chip, s)
	if err != api.OK {
		return err
	}
	r.chip = x
	r.done = append(r.done, done...)
	return api.OK
}

func op(core int, o api.Op) api.Step {
	return api.Step{Kind: api.StepOp, Node: core, Op: o}
}
