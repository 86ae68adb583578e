package parley_test

import (
	"fmt"
	"hash/fnv"
	"math"
	"strings"
	"testing"

	"parley/api"
	"parley/parley"
)

// The document's hash is FNV-1a: the library's own is a second witness.
func hashOf(text string) uint64 {
	h := fnv.New64a()
	h.Write([]byte(text))
	return h.Sum64()
}

var (
	someInts    = []int{math.MinInt, math.MinInt + 1, -1000, -10, -1, 0, 1, 2, 3, 4, 9, 10, 999, 1000, 1001, math.MaxInt - 1, math.MaxInt}
	someNumbers = []uint64{0, 1, 9, 10, math.MaxInt64, math.MaxInt64 + 1, math.MaxUint64 - 1, math.MaxUint64}
)

// certBy makes a certificate with the right seals of these members, and 0 for the others.
func certBy(view int, block uint64, members ...int) api.Cert {
	c := api.Cert{View: view, Block: block}
	for _, member := range members {
		c.Seals[member] = parley.Seal(member, api.Vote, view, block)
	}
	return c
}

func TestP2SealIsTheHashOfItsText(t *testing.T) {
	for _, member := range someInts {
		for _, kind := range someInts {
			for _, view := range someInts {
				for _, number := range someNumbers {
					text := fmt.Sprintf("member %d %d %d %d", member, kind, view, number)
					if got := parley.Seal(member, kind, view, number); got != hashOf(text) {
						t.Fatalf("Seal(%d, %d, %d, %d) = %d, want the hash of %q", member, kind, view, number, got, text)
					}
				}
			}
		}
	}
}

func TestP2SealAtTheEnds(t *testing.T) {
	for _, c := range []struct {
		member, kind, view int
		number             uint64
		text               string
	}{
		{0, 0, 0, 0, "member 0 0 0 0"},
		{3, api.Vote, 1000, 42, "member 3 2 1000 42"},
		{-1, -2, -3, 0, "member -1 -2 -3 0"},
		{math.MinInt64, math.MaxInt64, math.MinInt64, math.MaxUint64, "member -9223372036854775808 9223372036854775807 -9223372036854775808 18446744073709551615"},
	} {
		if got := parley.Seal(c.member, c.kind, c.view, c.number); got != hashOf(c.text) {
			t.Errorf("Seal(%d, %d, %d, %d) = %d, want the hash of %q", c.member, c.kind, c.view, c.number, got, c.text)
		}
	}
}

func TestP2NumberIsTheHashOfItsText(t *testing.T) {
	commands := []string{"", " ", "a", "set x 1", "sixteen bytes ok", "é", "\x00", "\xff\xfe", "1 2", strings.Repeat("long ", 10000)}
	for _, view := range someInts {
		for _, parent := range someNumbers {
			for _, command := range commands {
				b := api.Block{View: view, Just: api.Cert{Block: parent}, Command: command}
				text := fmt.Sprintf("%d %d %s", view, parent, command)
				if got := parley.Number(b); got != hashOf(text) {
					t.Fatalf("Number of view %d, parent %d, command %.20q = %d, want the hash of its text", view, parent, command, got)
				}
			}
		}
	}
}

func TestP2NumberAtTheEnds(t *testing.T) {
	for _, c := range []struct {
		view    int
		parent  uint64
		command string
		text    string
	}{
		{0, 0, "", "0 0 "},
		{1, 0, "", "1 0 "},
		{-7, 5, "go", "-7 5 go"},
		{math.MinInt64, math.MaxUint64, "", "-9223372036854775808 18446744073709551615 "},
		{math.MaxInt64, 1 << 63, " ", "9223372036854775807 9223372036854775808  "},
	} {
		b := api.Block{View: c.view, Just: api.Cert{Block: c.parent}, Command: c.command}
		if got := parley.Number(b); got != hashOf(c.text) {
			t.Errorf("Number(%+v) = %d, want the hash of %q", b, got, c.text)
		}
	}
}

func TestP2NumberLooksOnlyAtViewParentAndCommand(t *testing.T) {
	plain := api.Block{View: 6, Just: api.Cert{Block: 11}, Command: "x"}
	sealed := plain
	sealed.Just = certBy(5, 11, 0, 1, 2)
	if parley.Number(plain) != parley.Number(sealed) {
		t.Error("the Just's View and Seals change the number")
	}
	for _, other := range []api.Block{
		{View: 7, Just: plain.Just, Command: "x"},
		{View: 6, Just: api.Cert{Block: 12}, Command: "x"},
		{View: 6, Just: plain.Just, Command: "y"},
		{View: 6, Just: plain.Just, Command: ""},
	} {
		if parley.Number(plain) == parley.Number(other) {
			t.Errorf("%+v has the number of %+v", other, plain)
		}
	}
}

func TestP2GoodFromQuorumOn(t *testing.T) {
	for _, view := range someInts {
		for _, block := range someNumbers {
			for set := 1; set < 1<<api.Members; set++ {
				members := membersOf(set)
				c := certBy(view, block, members...)
				if got, want := parley.Good(c), len(members) >= api.Quorum; got != want {
					t.Errorf("view %d, block %d, sealed by %v: Good = %v", view, block, members, got)
				}
			}
		}
	}
}

func membersOf(set int) []int {
	var members []int
	for member := range api.Members {
		if set>>member&1 == 1 {
			members = append(members, member)
		}
	}
	return members
}

func TestP2GoodCountsOnlyRightSeals(t *testing.T) {
	const view, block = 12, 345
	for _, wrong := range []struct {
		name string
		seal func(member int) uint64
	}{
		{"none", func(int) uint64 { return 0 }},
		{"one off", func(m int) uint64 { return parley.Seal(m, api.Vote, view, block) + 1 }},
		{"another kind", func(m int) uint64 { return parley.Seal(m, api.Proposal, view, block) }},
		{"another view", func(m int) uint64 { return parley.Seal(m, api.Vote, view+1, block) }},
		{"another block", func(m int) uint64 { return parley.Seal(m, api.Vote, view, block+1) }},
		{"another member", func(m int) uint64 { return parley.Seal((m+1)%api.Members, api.Vote, view, block) }},
		{"always member 0", func(int) uint64 { return parley.Seal(0, api.Vote, view, block) }},
	} {
		for member := range api.Members {
			c := certBy(view, block, 0, 1, 2, 3)
			c.Seals[member] = wrong.seal(member)
			if !parley.Good(c) {
				t.Errorf("%s in place %d: three are right, but it is not good", wrong.name, member)
			}
		}
		for set := range 1 << api.Members {
			if len(membersOf(set)) < 2 {
				continue
			}
			c := certBy(view, block, 0, 1, 2, 3)
			right := api.Members
			for _, member := range membersOf(set) {
				c.Seals[member] = wrong.seal(member)
				if c.Seals[member] != parley.Seal(member, api.Vote, view, block) {
					right--
				}
			}
			if got := parley.Good(c); got != (right >= api.Quorum) {
				t.Errorf("%s in places %v: Good = %v with %d right", wrong.name, membersOf(set), got, right)
			}
		}
	}
}

func TestP2GoodOfTheFirstCertificate(t *testing.T) {
	if !parley.Good(api.Cert{}) {
		t.Error("the first certificate is not good")
	}
	for _, c := range []api.Cert{certBy(0, 0, 0, 1, 2), certBy(0, 0, 1, 2, 3), certBy(0, 0, 0, 1, 2, 3)} {
		if !parley.Good(c) {
			t.Errorf("view 0 and block 0 with a quorum of right seals is not good: %+v", c)
		}
	}
	for member := range api.Members {
		c := api.Cert{}
		c.Seals[member] = 1
		if parley.Good(c) {
			t.Errorf("view 0 and block 0 with a wrong seal of %d is good", member)
		}
		if c = certBy(0, 0, member); parley.Good(c) {
			t.Errorf("view 0 and block 0 with the seal of %d alone is good", member)
		}
		if c = certBy(0, 0, member, (member+1)%api.Members); parley.Good(c) {
			t.Errorf("view 0 and block 0 with two right seals is good: %+v", c)
		}
	}
	for _, c := range []api.Cert{{View: 1}, {View: -1}, {Block: 1}, {View: math.MinInt}, {View: math.MaxInt}, {Block: math.MaxUint64}} {
		if parley.Good(c) {
			t.Errorf("without a seal, but not the first, and good: %+v", c)
		}
	}
}

func TestP2GoodLeavesNoRoomForAnotherViewOrBlock(t *testing.T) {
	c := certBy(5, 9, 0, 1, 2, 3)
	for _, other := range []api.Cert{
		{View: 6, Block: 9, Seals: c.Seals},
		{View: -5, Block: 9, Seals: c.Seals},
		{View: 5, Block: 10, Seals: c.Seals},
		{View: 9, Block: 5, Seals: c.Seals},
		{View: 0, Block: 0, Seals: c.Seals},
	} {
		if parley.Good(other) {
			t.Errorf("good with the seals for view 5 and block 9: %+v", other)
		}
	}
}
