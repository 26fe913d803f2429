package check

import (
	"math"

	"skerry/api"
)

// The operators.
const (
	equal = "="
	from  = ">="
	below = "<"
)

// takeOneRow takes the partition and the row of a WHERE of one row.
func (c *checker) takeOneRow() {
	part, row := c.conds()
	c.takePart(part)
	want(len(row) == 1 && row[0].Op == equal, api.ErrArg)
	c.plan.Row = row[0].Value.N
}

// takeRows takes the partition, and the least and the greatest row, of a WHERE of rows.
func (c *checker) takeRows() {
	part, row := c.conds()
	c.takePart(part)
	same, least, end := withOp(row, equal), withOp(row, from), withOp(row, below)
	want(len(same) == 0 || len(row) == 1, api.ErrArg)
	want(len(least) <= 1 && len(end) <= 1, api.ErrArg)
	low, high := math.MinInt, math.MaxInt
	for _, n := range same {
		low, high = n, n
	}
	for _, n := range least {
		low = n
	}
	for _, n := range end {
		low, high = ahead(low, n)
	}
	c.plan.Low, c.plan.High = low, high
}

// ahead: the rows from low on that are less than n. There is no int ahead of the least one, so that no row is then told by 1 and 0.
func ahead(low, n int) (int, int) {
	if n == math.MinInt {
		return 1, 0
	}
	return low, n - 1
}

func (c *checker) takePart(l []api.Cond) {
	want(len(l) == 1 && l[0].Op == equal, api.ErrArg)
	want(l[0].Value.S != "", api.ErrArg)
	c.plan.Part = l[0].Value.S
}

// conds: those of the partition and those of the row; there are no others.
func (c *checker) conds() (part, row []api.Cond) {
	t, where := c.plan.Table, c.q.Where
	for _, x := range where {
		want(isOfKey(t, x.Column), api.ErrColumn)
	}
	for _, x := range where {
		want(x.Value.Kind == kindAt(t, x.Column), api.ErrType)
	}
	for _, x := range where {
		if x.Column == t.Part {
			part = append(part, x)
		} else {
			row = append(row, x)
		}
	}
	return part, row
}

// withOp: the numbers behind an operator.
func withOp(l []api.Cond, op string) []int {
	var out []int
	for _, x := range l {
		if x.Op == op {
			out = append(out, x.Value.N)
		}
	}
	return out
}
