package parley

import (
	"maps"
	"slices"

	"parley/api"
)

// Member is one of the four.
type Member struct {
	id, patience int
	view, waited int
	voted        int // the last view in which it has voted
	high, locked api.Cert
	queue        []string
	log          []uint64 // numbers of blocks, the oldest first
	blocks       map[uint64]api.Block
	votes        map[uint64]roll // by the number of the block voted for
	views        map[int]viewRecord
}

// viewRecord is what a member keeps of a view that it leads.
type viewRecord struct {
	proposed bool
	entered  roll
}

// roll tells of each member whether its message was taken.
type roll [api.Members]bool

func (r roll) full() bool {
	taken := 0
	for _, is := range r {
		if is {
			taken++
		}
	}
	return taken >= api.Quorum
}

func leader(view int) int { return view % api.Members }

func (m *Member) wait(sent outbox) {
	m.waited++
	if m.waited < m.patience || m.view >= api.MaxView {
		return
	}
	m.enter(m.view + 1)
	sent <- m.enterLetter()
}

func (m *Member) enter(view int) {
	m.view, m.waited = view, 0
	m.forget()
}

// forget drops what is not asked for again: neither the view nor High's ever goes
// back, and a message for what lies behind them is refused as old.
func (m *Member) forget() {
	maps.DeleteFunc(m.views, func(view int, _ viewRecord) bool { return view < m.view })
	maps.DeleteFunc(m.votes, func(number uint64, _ roll) bool { return m.isOldVote(m.blocks[number].View) })
}

func (m *Member) enterLetter() api.Letter {
	return api.Letter{To: leader(m.view), Message: api.Message{
		Kind: api.Enter,
		From: m.id,
		View: m.view,
		Cert: m.high,
		Seal: Seal(m.id, api.Enter, m.view, 0),
	}}
}

func (m *Member) propose(sent outbox) {
	if !m.mayPropose() {
		return
	}
	m.noteProposed()
	block := api.Block{View: m.view, Just: m.high, Command: m.takeCommand()}
	m.know(block)
	sent <- m.proposalLetter(block)
}

func (m *Member) mayPropose() bool {
	record := m.views[m.view]
	if leader(m.view) != m.id || record.proposed {
		return false
	}
	return m.high.View == m.view-1 || record.entered.full()
}

func (m *Member) noteProposed() {
	record := m.views[m.view]
	record.proposed = true
	m.views[m.view] = record
}

func (m *Member) takeCommand() string {
	if len(m.queue) == 0 {
		return ""
	}
	command := m.queue[0]
	m.queue = slices.Delete(m.queue, 0, 1)
	return command
}

func (m *Member) proposalLetter(block api.Block) api.Letter {
	return api.Letter{To: toAll, Message: api.Message{
		Kind:  api.Proposal,
		From:  m.id,
		View:  m.view,
		Block: block,
		Seal:  Seal(m.id, api.Proposal, m.view, Number(block)),
	}}
}
