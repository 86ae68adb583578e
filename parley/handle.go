package parley

import "parley/api"

func (m *Member) take(message api.Message, sent outbox) api.Errno {
	switch message.Kind {
	case api.Proposal:
		return m.takeProposal(message, sent)
	case api.Vote:
		return m.takeVote(message)
	case api.Enter:
		return m.takeEnter(message)
	}
	return api.ErrForm
}

func (m *Member) takeProposal(message api.Message, sent outbox) api.Errno {
	if fault := m.faultOfProposal(message); fault != api.OK {
		return fault
	}
	m.know(message.Block)
	m.learn(message.Block.Just)
	if m.agreesWith(message.Block) {
		m.voted = message.View
		sent <- m.voteLetter(message.View, Number(message.Block))
	}
	m.enter(min(message.View+1, api.MaxView))
	return api.OK
}

func (m *Member) faultOfProposal(message api.Message) api.Errno {
	block := message.Block
	switch {
	case !isView(message.View, api.MaxView) || message.From != leader(message.View):
		return api.ErrForm
	case block.View != message.View || len(block.Command) > api.MaxCommand || !isBelow(block.Just, message.View):
		return api.ErrForm
	case message.Seal != Seal(message.From, api.Proposal, message.View, Number(block)) || !Good(block.Just):
		return api.ErrSeal
	case !m.knows(block.Just.Block, block.Just.View):
		return api.ErrBlock
	case message.View < m.view || message.View <= m.voted:
		return api.ErrOld
	}
	return api.OK
}

// agreesWith is asked when the block's Just is learned of: Locked may be new.
func (m *Member) agreesWith(block api.Block) bool {
	parent, locked := block.Just.Block, m.locked.Block
	return parent == locked || m.isAhead(locked, parent) || block.Just.View > m.locked.View
}

func (m *Member) voteLetter(view int, number uint64) api.Letter {
	return api.Letter{To: leader(view + 1), Message: api.Message{
		Kind:   api.Vote,
		From:   m.id,
		View:   view,
		Number: number,
		Seal:   Seal(m.id, api.Vote, view, number),
	}}
}

func (m *Member) takeVote(message api.Message) api.Errno {
	if fault := m.faultOfVote(message); fault != api.OK {
		return fault
	}
	votes := m.votes[message.Number]
	votes[message.From] = true
	m.votes[message.Number] = votes
	if !votes.full() {
		return api.OK
	}
	m.learn(certOf(message.View, message.Number, votes))
	if m.view <= message.View {
		m.enter(message.View + 1)
	}
	return api.OK
}

func (m *Member) faultOfVote(message api.Message) api.Errno {
	switch {
	case !isMember(message.From) || !isView(message.View, api.MaxView-1) || m.id != leader(message.View+1):
		return api.ErrForm
	case message.Seal != Seal(message.From, api.Vote, message.View, message.Number):
		return api.ErrSeal
	case !m.knows(message.Number, message.View):
		return api.ErrBlock
	case m.isOldVote(message.View):
		return api.ErrOld
	case m.votes[message.Number][message.From]:
		return api.ErrTwice
	}
	return api.OK
}

func (m *Member) isOldVote(view int) bool {
	return view < m.view-1 || view <= m.high.View
}

// certOf makes the seals anew: those of the votes were right, so they are these.
func certOf(view int, number uint64, votes roll) api.Cert {
	cert := api.Cert{View: view, Block: number}
	for member, voted := range votes {
		if voted {
			cert.Seals[member] = Seal(member, api.Vote, view, number)
		}
	}
	return cert
}

func (m *Member) takeEnter(message api.Message) api.Errno {
	if fault := m.faultOfEnter(message); fault != api.OK {
		return fault
	}
	record := m.views[message.View]
	record.entered[message.From] = true
	m.views[message.View] = record
	m.learn(message.Cert)
	if record.entered.full() && message.View > m.view {
		m.enter(message.View)
	}
	return api.OK
}

func (m *Member) faultOfEnter(message api.Message) api.Errno {
	switch {
	case !isMember(message.From) || !isView(message.View, api.MaxView) || m.id != leader(message.View):
		return api.ErrForm
	case !isBelow(message.Cert, message.View):
		return api.ErrForm
	case message.Seal != Seal(message.From, api.Enter, message.View, 0) || !Good(message.Cert):
		return api.ErrSeal
	case !m.knows(message.Cert.Block, message.Cert.View):
		return api.ErrBlock
	case message.View < m.view:
		return api.ErrOld
	case m.views[message.View].entered[message.From]:
		return api.ErrTwice
	}
	return api.OK
}

func isMember(id int) bool { return id >= 0 && id < api.Members }

func isView(view, last int) bool { return view >= 1 && view <= last }

func isBelow(cert api.Cert, view int) bool { return cert.View >= 0 && cert.View < view }
