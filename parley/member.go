package parley

import (
	"maps"
	"slices"

	"parley/api"
)

// Member is one of the four.
type Member struct {
	id, patience int
	view, waited int
	high, locked api.Cert
	queue        []string
	log          []uint64 // numbers of blocks, the oldest first
	blocks       map[uint64]api.Block
	views        map[int]viewRecord
}

// viewRecord is what a member keeps of a view that it leads.
type viewRecord struct {
	proposed bool
	entered  [api.Members]bool // whose Enter was taken
}

func (r viewRecord) entries() int {
	taken := 0
	for _, entered := range r.entered {
		if entered {
			taken++
		}
	}
	return taken
}

func leader(view int) int { return view % api.Members }

func (m *Member) wait(sent outbox) {
	m.waited++
	if m.waited < m.patience || m.view >= api.MaxView {
		return
	}
	m.enter(m.view + 1)
	sent <- m.enterLetter()
}

func (m *Member) enter(view int) {
	m.view, m.waited = view, 0
	// No view is gone back to: what is kept of those behind would not be asked again.
	maps.DeleteFunc(m.views, func(v int, _ viewRecord) bool { return v < view })
}

func (m *Member) enterLetter() api.Letter {
	return api.Letter{To: leader(m.view), Message: api.Message{
		Kind: api.Enter,
		From: m.id,
		View: m.view,
		Cert: m.high,
		Seal: Seal(m.id, api.Enter, m.view, 0),
	}}
}

func (m *Member) propose(sent outbox) {
	if !m.mayPropose() {
		return
	}
	m.noteProposed()
	block := api.Block{View: m.view, Just: m.high, Command: m.takeCommand()}
	m.know(block)
	sent <- m.proposalLetter(block)
}

func (m *Member) mayPropose() bool {
	record := m.views[m.view]
	if leader(m.view) != m.id || record.proposed {
		return false
	}
	return m.high.View == m.view-1 || record.entries() >= api.Quorum
}

func (m *Member) noteProposed() {
	record := m.views[m.view]
	record.proposed = true
	m.views[m.view] = record
}

func (m *Member) takeCommand() string {
	if len(m.queue) == 0 {
		return ""
	}
	command := m.queue[0]
	m.queue = slices.Delete(m.queue, 0, 1)
	return command
}

// know keeps the first of the blocks of one number: a later one may have another Just.
func (m *Member) know(block api.Block) {
	number := Number(block)
	if _, known := m.blocks[number]; !known {
		m.blocks[number] = block
	}
}

func (m *Member) proposalLetter(block api.Block) api.Letter {
	return api.Letter{To: toAll, Message: api.Message{
		Kind:  api.Proposal,
		From:  m.id,
		View:  m.view,
		Block: block,
		Seal:  Seal(m.id, api.Proposal, m.view, Number(block)),
	}}
}
