package truth

import (
	"iter"
	"slices"

	"skolem/api"
)

// choice is what is chosen when a Dqbf is to be true: a list of tables. It is a number in which the bits of all tables stand one behind the other, the first one being the greatest; so the order of tables is that of their numbers.
type choice struct {
	tables     []api.Table // without bits
	size       int         // of all their bits
	univ       []int       // the bits of the universal variables in an assignment; those of the existential ones follow
	on         [][]int     // for each table, the bits of its On
	falsifiers []pattern   // of assignments
}

// newChoice returns the choice for a valid Dqbf, unless it is too large.
func newChoice(d api.Dqbf) (*choice, api.Errno) {
	if len(d.Univ) > api.MaxUniv {
		return nil, api.ErrLong
	}
	c := &choice{tables: rows(d.Exist)}
	c.size = size(c.tables)
	if c.size > api.MaxBits {
		return nil, api.ErrLong
	}
	vars := slices.Clone(d.Univ)
	for _, t := range c.tables {
		vars = append(vars, t.Var)
	}
	place := places(vars)
	c.univ = each(d.Univ, place)
	for _, t := range c.tables {
		c.on = append(c.on, each(t.On, place))
	}
	c.falsifiers = falsifiers(d.Clauses, place)
	return c, api.OK
}

// asked returns, for each table, the bit of a list's number that has its value in an assignment of the universal variables.
func (c *choice) asked(univ int) []int {
	var out []int
	after := c.size
	for i, t := range c.tables {
		out = append(out, 1<<(after-1-gather(univ, c.on[i])))
		after -= 1 << len(t.On)
	}
	return out
}

// losses tells which lists of tables do not satisfy a clause in an assignment of the universal variables.
func (c *choice) losses() iter.Seq[pattern] {
	return func(yield func(pattern) bool) {
		n := len(c.univ)
		for univ := range assignments(c.univ) {
			asked := c.asked(univ)
			for _, f := range c.falsifiers {
				if (univ^f.value)&f.care&(1<<n-1) != 0 {
					continue
				}
				if !yield(pattern{spread(f.care>>n, asked), spread(f.value>>n, asked)}) {
					return
				}
			}
		}
	}
}

// lost returns, for the number of each list of tables, whether it does not win.
func (c *choice) lost() []bool { return covered(c.size, c.losses()) }

// number returns the number of a list of tables.
func (c *choice) number(l []api.Table) int {
	n := 0
	for _, t := range l {
		for _, b := range t.Bits {
			n <<= 1
			if b {
				n |= 1
			}
		}
	}
	return n
}

// tablesOf returns the list of tables with a number.
func (c *choice) tablesOf(n int) []api.Table {
	after := c.size
	for i := range c.tables {
		t := &c.tables[i]
		for range 1 << len(t.On) {
			after--
			t.Bits = append(t.Bits, n>>after&1 == 1)
		}
	}
	return c.tables
}
