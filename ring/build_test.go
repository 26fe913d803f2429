package ring

// Build gives the tests rings whose points no node's names hash to: alike ones, and those at the ends of the tokens.
func Build(points []Point, copies int) *Ring { return build(points, copies) }
