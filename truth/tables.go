package truth

import (
	"slices"

	"skolem/api"
)

// rows returns tables of the existential variables of a Dqbf, without bits.
func rows(exist []api.Dep) []api.Table {
	var out []api.Table
	for _, row := range exist {
		out = append(out, api.Table{Var: row.Var, On: slices.Clone(row.On)})
	}
	return out
}

// answers returns tables of the universal player, without bits.
func answers(p []api.Block) []api.Table {
	var out []api.Table
	var on []int
	for _, b := range p {
		if b.Exists {
			on = append(on, b.Vars...)
			slices.Sort(on)
			continue
		}
		for _, v := range b.Vars {
			out = append(out, api.Table{Var: v, On: slices.Clone(on)})
		}
	}
	return out
}

// areTables reports whether tables have the Vars and Ons of others, and as many bits as they must have.
func areTables(l, others []api.Table) bool {
	return slices.EqualFunc(l, others, func(t, other api.Table) bool {
		// No list has as many bits as 62 variables ask for; nor is there a number of them.
		return t.Var == other.Var && slices.Equal(t.On, other.On) && len(t.On) < 62 && len(t.Bits) == 1<<len(t.On)
	})
}

// size returns how many bits tables on a few variables have in all.
func size(l []api.Table) int {
	total := 0
	for _, t := range l {
		total += 1 << len(t.On)
	}
	return total
}
