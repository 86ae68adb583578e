package parley_test

import (
	"fmt"
	"math"
	"slices"
	"strings"
	"testing"

	"parley/api"
	"parley/parley"
)

func newMember(t *testing.T, id, patience int) *parley.Member {
	t.Helper()
	m, errno := parley.New(id, patience)
	if m == nil || errno != api.OK {
		t.Fatalf("New(%d, %d) = %v, %d", id, patience, m, errno)
	}
	return m
}

// enterOf and proposalOf are written out by the document's words, with every
// field that it does not name left empty.
func enterOf(id, view int, high api.Cert) api.Letter {
	return api.Letter{To: view % 4, Message: api.Message{
		Kind: 3, From: id, View: view, Cert: high,
		Seal: hashOf(fmt.Sprintf("member %d 3 %d 0", id, view)),
	}}
}

func proposalOf(id int, b api.Block) api.Letter {
	number := hashOf(fmt.Sprintf("%d %d %s", b.View, b.Just.Block, b.Command))
	return api.Letter{To: -1, Message: api.Message{
		Kind: 1, From: id, View: b.View, Block: b,
		Seal: hashOf(fmt.Sprintf("member %d 1 %d %d", id, b.View, number)),
	}}
}

func wantLetters(t *testing.T, got []api.Letter, want ...api.Letter) {
	t.Helper()
	if !slices.Equal(got, want) {
		t.Fatalf("sent %+v, want %+v", got, want)
	}
}

func submit(t *testing.T, m *parley.Member, command string, want api.Errno) {
	t.Helper()
	if got := m.Submit(command); got != want {
		t.Fatalf("Submit(%.40q) = %d, want %d", command, got, want)
	}
}

func TestP3NewTakesFourMembersAndSomePatience(t *testing.T) {
	patiences := append([]int{-100, 50, 99, 100, 101, 102}, someInts...)
	for _, id := range someInts {
		for _, patience := range patiences {
			m, errno := parley.New(id, patience)
			want := api.OK
			if id < 0 || id > 3 || patience < 1 || patience > 100 {
				want = api.ErrForm
			}
			if errno != want || (m != nil) != (want == api.OK) {
				t.Errorf("New(%d, %d) = %v, %d, want %d", id, patience, m, errno, want)
			}
		}
	}
}

func TestP3NewAtTheEdges(t *testing.T) {
	for _, c := range []struct {
		id, patience int
		want         api.Errno
	}{
		{-1, 1, api.ErrForm}, {0, 1, api.OK}, {3, 1, api.OK}, {4, 1, api.ErrForm},
		{0, 0, api.ErrForm}, {0, api.MaxPatience, api.OK}, {0, api.MaxPatience + 1, api.ErrForm}, {0, -1, api.ErrForm},
		{3, api.MaxPatience, api.OK}, {4, api.MaxPatience + 1, api.ErrForm}, {-1, 0, api.ErrForm},
		{math.MinInt, math.MaxInt, api.ErrForm}, {math.MaxInt, math.MinInt, api.ErrForm},
	} {
		m, errno := parley.New(c.id, c.patience)
		if errno != c.want || (m == nil) != (c.want != api.OK) {
			t.Errorf("New(%d, %d) = %v, %d, want %d", c.id, c.patience, m, errno, c.want)
		}
	}
}

func TestP3WhatANewMemberHas(t *testing.T) {
	for id := range api.Members {
		for _, patience := range []int{1, 2, api.MaxPatience} {
			m := newMember(t, id, patience)
			for range 2 { // telling changes nothing
				if m.View() != 1 || m.High() != (api.Cert{}) || m.Locked() != (api.Cert{}) || len(m.Log()) != 0 {
					t.Errorf("a new member %d has %d, %v, %v, %q", id, m.View(), m.High(), m.Locked(), m.Log())
				}
			}
		}
	}
}

func TestP3SubmitCountsBytes(t *testing.T) {
	for _, c := range []struct {
		command string
		want    api.Errno
	}{
		{"", api.OK},
		{"a", api.OK},
		{strings.Repeat("x", api.MaxCommand-1), api.OK},
		{strings.Repeat("x", api.MaxCommand), api.OK},
		{strings.Repeat("x", api.MaxCommand+1), api.ErrForm},
		{strings.Repeat("é", api.MaxCommand/2), api.OK},
		{strings.Repeat("é", api.MaxCommand/2) + "x", api.ErrForm},
		{strings.Repeat("\x00", api.MaxCommand), api.OK},
		{strings.Repeat("\xff", api.MaxCommand), api.OK},
		{strings.Repeat("\xff", api.MaxCommand+1), api.ErrForm},
		{strings.Repeat("long ", 100000), api.ErrForm},
	} {
		m := newMember(t, 0, 1)
		submit(t, m, c.command, c.want)
	}
}

func TestP3SubmitUntilTheQueueIsFull(t *testing.T) {
	for id := range api.Members {
		m := newMember(t, id, 5)
		long := strings.Repeat("x", api.MaxCommand+1)
		for i := range api.MaxQueue {
			submit(t, m, long, api.ErrForm) // takes no place
			submit(t, m, strings.Repeat("x", i%2), api.OK)
		}
		for range 3 {
			submit(t, m, "", api.ErrFull)
			submit(t, m, strings.Repeat("x", api.MaxCommand), api.ErrFull)
			submit(t, m, long, api.ErrForm) // the error named first
		}
	}
}

func TestP3SubmitWaitsBehindTheOthers(t *testing.T) {
	m := newMember(t, 1, 2)
	for i := range api.MaxQueue {
		submit(t, m, fmt.Sprint("c", i), api.OK)
	}
	submit(t, m, "late", api.ErrFull)
	wantLetters(t, m.Tick(), proposalOf(1, api.Block{View: 1, Command: "c0"}))
	submit(t, m, "late", api.OK) // the proposal took one
	submit(t, m, "later", api.ErrFull)
}

func TestP3SubmitAloneMovesNothing(t *testing.T) {
	m := newMember(t, 2, 3)
	m.Tick()
	for range api.MaxQueue + 1 {
		m.Submit("x")
	}
	if m.View() != 1 || m.High() != (api.Cert{}) || m.Locked() != (api.Cert{}) || len(m.Log()) != 0 {
		t.Errorf("after Submit: %d, %v, %v, %q", m.View(), m.High(), m.Locked(), m.Log())
	}
	wantLetters(t, m.Tick())
	wantLetters(t, m.Tick(), enterOf(2, 2, api.Cert{}))
}

func TestP4EntersWhenPatienceIsReached(t *testing.T) {
	for id := range api.Members {
		for patience := 1; patience <= api.MaxPatience; patience++ {
			m := newMember(t, id, patience)
			for view := 1; view <= 9; view++ {
				for tick := 1; tick < patience; tick++ {
					letters := m.Tick()
					if id == 1 && view == 1 && tick == 1 {
						wantLetters(t, letters, proposalOf(1, api.Block{View: 1}))
					} else {
						wantLetters(t, letters)
					}
					if m.View() != view {
						t.Fatalf("patience %d, tick %d of view %d: the view is %d", patience, tick, view, m.View())
					}
				}
				wantLetters(t, m.Tick(), enterOf(id, view+1, api.Cert{}))
				if m.View() != view+1 {
					t.Fatalf("patience %d is over in view %d: the view is %d", patience, view, m.View())
				}
			}
		}
	}
}

func TestP4NoViewBehindTheLast(t *testing.T) {
	for id := range api.Members {
		for _, patience := range []int{1, 2, 7} {
			m := newMember(t, id, patience)
			for view := 2; view <= api.MaxView; view++ {
				for range patience - 1 {
					m.Tick()
				}
				wantLetters(t, m.Tick(), enterOf(id, view, api.Cert{}))
			}
			for range 3*patience + 1 {
				wantLetters(t, m.Tick())
				if m.View() != api.MaxView {
					t.Fatalf("the view is %d", m.View())
				}
			}
		}
	}
}

func TestP4TheFirstLeaderProposesOnce(t *testing.T) {
	for _, patience := range []int{2, 3, api.MaxPatience} {
		for _, commands := range [][]string{nil, {""}, {"first"}, {"first", "second"}, {"", "second"}, {strings.Repeat("\xff", api.MaxCommand)}} {
			m := newMember(t, 1, patience)
			first := ""
			for i, command := range commands {
				submit(t, m, command, api.OK)
				if i == 0 {
					first = command
				}
			}
			wantLetters(t, m.Tick(), proposalOf(1, api.Block{View: 1, Command: first}))
			if m.View() != 1 || m.High() != (api.Cert{}) || m.Locked() != (api.Cert{}) || len(m.Log()) != 0 {
				t.Errorf("after its proposal: %d, %v, %v, %q", m.View(), m.High(), m.Locked(), m.Log())
			}
			submit(t, m, "more", api.OK)
			for range patience - 2 {
				wantLetters(t, m.Tick())
			}
			wantLetters(t, m.Tick(), enterOf(1, 2, api.Cert{}))
		}
	}
}

func TestP4WhoLeavesTheFirstViewAtOnceProposesNothing(t *testing.T) {
	m := newMember(t, 1, 1)
	for range api.MaxQueue {
		submit(t, m, "x", api.OK)
	}
	for view := 2; view <= 30; view++ {
		wantLetters(t, m.Tick(), enterOf(1, view, api.Cert{}))
		submit(t, m, "x", api.ErrFull) // nothing was taken from the queue
	}
}

func TestP4OthersDoNotProposeInTheFirstView(t *testing.T) {
	for _, id := range []int{0, 2, 3} {
		m := newMember(t, id, 50)
		submit(t, m, "x", api.OK)
		for range 49 {
			wantLetters(t, m.Tick())
		}
	}
}

func TestP1WhatComesOutIsNewMemory(t *testing.T) {
	for _, patience := range []int{1, 2, 3} {
		for id := range api.Members {
			m, twin := newMember(t, id, patience), newMember(t, id, patience)
			for range 40 {
				letters := m.Tick()
				wantLetters(t, letters, twin.Tick()...)
				letters = letters[:cap(letters)]
				for i := range letters {
					letters[i] = api.Letter{To: 99, Message: api.Message{Kind: 9, Cert: api.Cert{View: 9}}}
				}
				log := m.Log()
				log = log[:cap(log)]
				for i := range log {
					log[i] = "no"
				}
				if m.View() != twin.View() || m.High() != twin.High() || m.Locked() != twin.Locked() || !slices.Equal(m.Log(), twin.Log()) {
					t.Fatal("what a caller does with an answer changes the member")
				}
			}
		}
	}
}

func TestP1AnEarlierAnswerStays(t *testing.T) {
	m := newMember(t, 1, 2)
	submit(t, m, "a", api.OK)
	first := m.Tick()
	kept := slices.Clone(first)
	for range 20 {
		m.Tick()
	}
	wantLetters(t, first, kept...)
}

func TestP1MembersKnowNothingOfOneAnother(t *testing.T) {
	one, two, other := newMember(t, 1, 2), newMember(t, 1, 3), newMember(t, 2, 100)
	for range api.MaxQueue {
		submit(t, one, "one", api.OK)
	}
	submit(t, one, "one", api.ErrFull)
	submit(t, two, "two", api.OK)
	submit(t, other, "other", api.OK)
	wantLetters(t, one.Tick(), proposalOf(1, api.Block{View: 1, Command: "one"}))
	wantLetters(t, one.Tick(), enterOf(1, 2, api.Cert{}))
	if two.View() != 1 || other.View() != 1 {
		t.Errorf("one entered view 2, the others are in %d and %d", two.View(), other.View())
	}
	wantLetters(t, two.Tick(), proposalOf(1, api.Block{View: 1, Command: "two"}))
	wantLetters(t, other.Tick())
}
