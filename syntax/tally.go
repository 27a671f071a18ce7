package syntax

import (
	"motley/api"
	"motley/diagram"
	"motley/source"
)

// tally counts the tokens of each configuration.
type tally struct {
	counts  shares[int] // the configurations that have not too many tokens, by how many they have
	surplus shares[int] // the others, by the token that was one too many
}

// surplus tells in which configurations in within which token is the first that is one too many.
func surplus(tokens []source.Token, within diagram.D) shares[int] {
	t := tally{shares[int]{0: within}, shares[int]{}}
	if len(tokens) <= api.MaxTokens {
		return t.surplus
	}
	// The first tokens are not too many, even all together: so they may be counted in any order.
	first := map[diagram.D]int{}
	for _, x := range tokens[:api.MaxTokens] {
		first[x.Cond]++
	}
	for cond, n := range first {
		t.count(0, n, cond)
	}
	for i := api.MaxTokens; i < len(tokens); {
		n := 1
		for i+n < len(tokens) && tokens[i+n].Cond.Same(tokens[i].Cond) {
			n++
		}
		t.count(i, n, tokens[i].Cond)
		i += n
	}
	return t.surplus
}

// count counts some tokens with the same condition, which follow each other from one on.
func (t *tally) count(from, n int, cond diagram.D) {
	counts := shares[int]{}
	for have, d := range t.counts {
		counts.add(have, without(d, cond))
		if here := meet(d, cond); have+n <= api.MaxTokens {
			counts.add(have+n, here)
		} else {
			t.surplus.add(from+api.MaxTokens-have, here)
		}
	}
	t.counts = counts
}
