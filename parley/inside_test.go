package parley

import (
	"slices"
	"testing"

	"parley/api"
)

// These tests stand inside the package: they put a member where no call of
// Submit and Tick alone can bring it.

func memberInside(t *testing.T, id, patience int) *Member {
	t.Helper()
	m, errno := New(id, patience)
	if errno != api.OK {
		t.Fatalf("New(%d, %d) = %d", id, patience, errno)
	}
	return m
}

func certInside(view int, block uint64) api.Cert {
	c := api.Cert{View: view, Block: block}
	for i := range api.Quorum {
		c.Seals[i] = Seal(i, api.Vote, view, block)
	}
	return c
}

func enterInside(id, view int, high api.Cert) api.Letter {
	return api.Letter{To: view % 4, Message: api.Message{Kind: api.Enter, From: id, View: view, Cert: high, Seal: Seal(id, api.Enter, view, 0)}}
}

func proposalInside(id int, b api.Block) api.Letter {
	return api.Letter{To: -1, Message: api.Message{Kind: api.Proposal, From: id, View: b.View, Block: b, Seal: Seal(id, api.Proposal, b.View, Number(b))}}
}

func wantInside(t *testing.T, got []api.Letter, want ...api.Letter) {
	t.Helper()
	if !slices.Equal(got, want) {
		t.Fatalf("sent %+v, want %+v", got, want)
	}
}

func TestP3TellsHighLockedAndLog(t *testing.T) {
	m := memberInside(t, 0, 10)
	m.high, m.locked = certInside(7, 70), certInside(6, 60)
	if m.High() != certInside(7, 70) || m.Locked() != certInside(6, 60) {
		t.Errorf("High %v, Locked %v", m.High(), m.Locked())
	}
	for view, command := range []string{"unused", "old", "", "new"} {
		b := api.Block{View: view, Command: command}
		m.know(b)
		if view > 0 {
			m.log = append(m.log, Number(b))
		}
	}
	want := []string{"old", "", "new"}
	log := m.Log()
	if !slices.Equal(log, want) {
		t.Fatalf("Log %q, want %q", log, want)
	}
	log = log[:cap(log)]
	for i := range log {
		log[i] = "no"
	}
	if !slices.Equal(m.Log(), want) {
		t.Errorf("after its answer was changed: Log %q, want %q", m.Log(), want)
	}
}

func TestTheFirstBlockIsKnownFromTheBeginning(t *testing.T) {
	m := memberInside(t, 0, 1)
	if b, known := m.blocks[0]; !known || b != (api.Block{}) || len(m.blocks) != 1 {
		t.Errorf("known are %v", m.blocks)
	}
}

func TestP4EnterTellsHigh(t *testing.T) {
	for view := 1; view < 9; view++ {
		m := memberInside(t, 2, 1)
		m.view, m.high, m.locked = view, certInside(5, 50), certInside(4, 40)
		letters := m.Tick()
		if len(letters) == 0 || letters[0] != enterInside(2, view+1, m.high) {
			t.Errorf("in view %d: %+v", view, letters)
		}
	}
}

func TestP4EntersThenProposesInOneTick(t *testing.T) {
	for id := range api.Members {
		view := 8 + id
		m := memberInside(t, id, 1)
		m.Submit("x")
		m.view, m.high, m.locked = view-1, certInside(view-1, 77), certInside(3, 30)
		wantInside(t, m.Tick(), enterInside(id, view, m.high), proposalInside(id, api.Block{View: view, Just: m.high, Command: "x"}))
	}
}

func TestP4ProposesOnlyRightBehindHigh(t *testing.T) {
	for high := range 12 {
		for view := 1; view <= 12; view++ {
			for id := range api.Members {
				m := memberInside(t, id, 2)
				m.view, m.high = view, certInside(high, 7)
				letters := m.Tick()
				if id == view%4 && high == view-1 {
					wantInside(t, letters, proposalInside(id, api.Block{View: view, Just: m.high}))
				} else {
					wantInside(t, letters)
				}
			}
		}
	}
}

func TestP4ProposesWithAQuorumOfEnters(t *testing.T) {
	for set := range 1 << api.Members {
		for _, id := range []int{1, 2} {
			m := memberInside(t, id, 2)
			m.view = 5
			var record viewRecord
			for i := range api.Members {
				record.entered[i] = set>>i&1 == 1
			}
			m.views[5] = record
			letters := m.Tick()
			if id == 1 && record.entries() >= api.Quorum {
				wantInside(t, letters, proposalInside(1, api.Block{View: 5}))
				wantInside(t, m.Tick(), enterInside(1, 6, api.Cert{}))
			} else {
				wantInside(t, letters)
			}
		}
	}
}

func TestP4EntersOfAnotherViewDoNotCount(t *testing.T) {
	m := memberInside(t, 1, 1)
	m.view = 8
	m.views[9] = viewRecord{entered: [api.Members]bool{true, false, true, true}}
	m.views[13] = m.views[9]
	wantInside(t, m.Tick(), enterInside(1, 9, api.Cert{}), proposalInside(1, api.Block{View: 9}))
	wantInside(t, m.Tick(), enterInside(1, 10, api.Cert{}))
	if _, kept := m.views[9]; kept || m.views[13].entries() != api.Quorum {
		t.Errorf("of views are kept %v", m.views)
	}
}

func TestP4ProposesInTheLastViewToo(t *testing.T) {
	m := memberInside(t, 0, 2)
	m.Submit("end")
	m.view, m.high = api.MaxView, certInside(api.MaxView-1, 5)
	wantInside(t, m.Tick(), proposalInside(0, api.Block{View: api.MaxView, Just: m.high, Command: "end"}))
	for range 9 {
		wantInside(t, m.Tick())
	}
}

func TestP4EachProposalTakesTheNextCommand(t *testing.T) {
	m := memberInside(t, 1, 1)
	for _, command := range []string{"a", "", "c"} {
		m.Submit(command)
	}
	for i, want := range []string{"a", "", "c", "", ""} {
		view := 5 + 4*i
		m.view, m.high = view-1, certInside(view-1, 9)
		wantInside(t, m.Tick(), enterInside(1, view, m.high), proposalInside(1, api.Block{View: view, Just: m.high, Command: want}))
	}
}

func TestAProposedBlockIsKnown(t *testing.T) {
	m := memberInside(t, 1, 2)
	m.Submit("x")
	m.Tick()
	b := api.Block{View: 1, Command: "x"}
	if got, known := m.blocks[Number(b)]; !known || got != b || len(m.blocks) != 2 {
		t.Errorf("known are %v", m.blocks)
	}
}

func TestTheFirstBlockOfANumberStays(t *testing.T) {
	m := memberInside(t, 1, 2)
	first := api.Block{View: 5, Just: certInside(4, 40), Command: "x"}
	later := first
	later.Just.Seals[3] = Seal(3, api.Vote, 4, 40)
	m.know(first)
	m.know(later)
	if m.blocks[Number(first)] != first {
		t.Error("a later block of the same number took the first one's place")
	}
}
