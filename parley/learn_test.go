package parley_test

import (
	"testing"

	"parley/api"
	"parley/parley"
)

func TestLearnStepByStep(t *testing.T) {
	line := lineOf(1, 2, 3, 4, 5, 6)
	m := newMember(t, 0, 9)
	none := api.Cert{}
	for i, want := range []struct {
		high, locked api.Cert
		log          []string
	}{
		{none, none, nil},
		{certFor(line[0]), none, nil},
		{certFor(line[1]), certFor(line[0]), nil},
		{certFor(line[2]), certFor(line[1]), []string{"c1"}},
		{certFor(line[3]), certFor(line[2]), []string{"c1", "c2"}},
		{certFor(line[4]), certFor(line[3]), []string{"c1", "c2", "c3"}},
	} {
		hear(t, m, 0, line[i])
		wantState(t, m, i+2, want.high, want.locked, want.log...)
	}
}

func TestLearnCommitsOnlyThreeViewsInARow(t *testing.T) {
	for _, c := range []struct {
		views []int
		log   []string
	}{
		{[]int{1, 2, 3}, nil}, // the third one is not certified
		{[]int{1, 2, 3, 9}, []string{"c1"}},
		{[]int{1, 3, 4, 9}, nil},
		{[]int{1, 2, 4, 9}, nil},
		{[]int{1, 3, 5, 9}, nil},
		{[]int{1, 4, 7, 10}, nil},
		{[]int{2, 3, 4, 5}, []string{"c2"}},
		{[]int{3, 4, 9}, nil}, // the first block is not put there
		{[]int{1, 2, 9}, nil},
		{[]int{1, 9}, nil},
		{[]int{1, 3, 6, 7, 8, 9}, []string{"c1", "c3", "c6"}},
		{[]int{1, 2, 3, 4, 6, 7, 8, 12}, []string{"c1", "c2", "c3", "c4", "c6"}},
		{[]int{1, 2, 3, 5, 7, 8, 10, 11, 12, 99}, []string{"c1", "c2", "c3", "c5", "c7", "c8", "c10"}},
		{[]int{1, 2, 3, 5, 7, 8, 10, 11, 13, 14}, []string{"c1"}},
		{[]int{996, 997, 998, 999, 1000}, []string{"c996", "c997"}},
		{[]int{996, 997, 998, 1000}, []string{"c996"}},
	} {
		for id := range api.Members {
			m := newMember(t, id, 9)
			m.Tick() // of member 1 the proposal of view 1 is out of the way
			for _, p := range lineOf(c.views...) {
				if letters, errno := m.Handle(p); errno != api.OK || len(letters) == 0 {
					t.Fatalf("views %v: %+v, %d", c.views, letters, errno)
				}
			}
			line := lineOf(c.views...)
			last := line[len(line)-1].Block.Just
			locked := api.Cert{}
			if len(line) > 1 {
				locked = line[len(line)-2].Block.Just
			}
			wantState(t, m, min(c.views[len(c.views)-1]+1, 1000), last, locked, c.log...)
		}
	}
}

func TestLearnPutsEmptyCommandsInTheLog(t *testing.T) {
	just := api.Cert{}
	m := newMember(t, 3, 9)
	for view := 1; view <= 6; view++ {
		p := proposed(view, just, "")
		hear(t, m, 3, p)
		just = certFor(p)
	}
	if log := m.Log(); len(log) != 3 || log[0] != "" || log[1] != "" || log[2] != "" {
		t.Errorf("Log %q", log)
	}
}

func TestLearnTheSameAgainPutsNothingTwice(t *testing.T) {
	line := lineOf(1, 2, 3, 4, 5)
	m := memberThatHeard(t, 3, 9, line...)
	before := stateOf(m)
	for i, just := range []api.Cert{certFor(line[3]), certFor(line[3], 1, 2, 3), certFor(line[2]), certFor(line[1]), {}} {
		for from := range 2 {
			handle(t, m, entering(from, 11+4*i, just), api.OK)
		}
		if stateOf(m) != before {
			t.Fatalf("after %+v: %+v, before %+v", just, stateOf(m), before)
		}
	}
}

func TestLearnOfALowerCertificate(t *testing.T) {
	// High is of view 5, on a branch of its own; what the lower ones say of Locked
	// and of the log holds all the same.
	line := lineOf(1, 2, 3, 4)
	m := memberThatHeard(t, 3, 9, line[0], line[1], line[2])
	fork := proposed(5, certFor(line[1]), "fork")
	hear(t, m, 3, fork)
	wantState(t, m, 6, certFor(line[1]), certFor(line[0]))
	handle(t, m, entering(0, 11, certFor(fork)), api.OK)
	wantState(t, m, 6, certFor(fork), certFor(line[1]))
	handle(t, m, entering(1, 11, certFor(line[2])), api.OK)
	wantState(t, m, 6, certFor(fork), certFor(line[1]), "c1")

	m = memberThatHeard(t, 3, 9, line[0], line[1])
	skip := proposed(6, certFor(line[0]), "skip")
	hear(t, m, 3, skip)
	far := proposed(9, certFor(skip), "far")
	hear(t, m, 3, far)
	wantState(t, m, 10, certFor(skip), certFor(line[0]))
	handle(t, m, entering(0, 11, certFor(far)), api.OK)
	wantState(t, m, 10, certFor(far), certFor(skip)) // Locked goes on to view 6
	handle(t, m, entering(1, 11, certFor(line[1])), api.OK)
	wantState(t, m, 10, certFor(far), certFor(skip)) // and not back to view 1
}

func TestLearnOfAnEqualCertificateKeepsTheFirst(t *testing.T) {
	line := lineOf(1, 2, 3)
	m := memberThatHeard(t, 3, 9, line...)
	handle(t, m, entering(0, 7, certFor(line[1], 1, 2, 3)), api.OK)
	wantState(t, m, 4, certFor(line[1]), certFor(line[0]))
}

func TestLearnOfAnEqualJustKeepsLocked(t *testing.T) {
	line := lineOf(1, 2)
	m := memberThatHeard(t, 3, 9, line...)
	beside := proposed(5, certFor(line[0], 1, 2, 3), "beside")
	hear(t, m, 3, beside)
	handle(t, m, entering(0, 7, certFor(line[1])), api.OK)
	wantState(t, m, 6, certFor(line[1]), certFor(line[0]))
	handle(t, m, entering(1, 7, certFor(beside)), api.OK)
	wantState(t, m, 6, certFor(beside), certFor(line[0]))
}

func TestLearnOfABlockAsItWasMetFirst(t *testing.T) {
	line := lineOf(1, 2, 3, 4)
	m := newMember(t, 1, 9)
	m.Tick()
	hear(t, m, 1, line...)
	own := proposalOf(1, api.Block{View: 5, Just: certFor(line[3])})
	handle(t, m, entering(0, 5, certFor(line[3])), api.OK, own)
	// The same block again, with other seals in its Just.
	again := proposed(5, certFor(line[3], 1, 2, 3), "")
	hear(t, m, 1, again)
	hear(t, m, 1, proposed(6, certFor(again), ""))
	wantState(t, m, 7, certFor(again), own.Block.Just, "c1", "c2", "c3")
}

func TestLearnNothingBesideTheLogsBranch(t *testing.T) {
	// Two branches of three views in a row each: only with more than one liar.
	line := lineOf(1, 2, 3, 4)
	m := memberThatHeard(t, 0, 9, line...)
	if log := stateOf(m).log; log != "c1" {
		t.Fatalf("Log %q", log)
	}
	fork := proposed(6, api.Cert{}, "fork")
	handle(t, m, fork, api.OK)
	branch := lineBehind(certFor(fork), 7, 8, 9)
	hear(t, m, 0, branch...)
	wantState(t, m, 10, certFor(branch[1]), certFor(branch[0]), "c1")
	// The log's own branch goes on.
	more := lineBehind(certFor(line[3]), 10)
	handle(t, m, more[0], api.OK)
	wantState(t, m, 11, certFor(branch[1]), certFor(branch[0]), "c1", "c2")
}

func TestLearnCommitsWhatAnotherBranchLeftOut(t *testing.T) {
	// The log holds what lies ahead of both branches; only the rest is put there.
	line := lineOf(1, 2, 3, 4)
	m := memberThatHeard(t, 3, 9, line...)
	branch := lineBehind(certFor(line[1]), 5, 6, 7, 8)
	hear(t, m, 3, branch...)
	wantState(t, m, 9, certFor(branch[2]), certFor(branch[1]), "c1", "c2", "c5")
	if n := parley.Number(line[2].Block); n == parley.Number(branch[0].Block) {
		t.Fatal("the branches are one")
	}
}
