package cursor

import "gusset/api"

// Node is a tree with N 0. Its list of kids is its own, if what is handed in is not used behind.
func Node(kind int, text string, kids ...api.Node) api.Node {
	return api.Node{Kind: kind, Text: text, Kids: kids}
}

// Names are those that may not stand again.
type Names map[string]struct{}

// Add adds the name here, and gives up if it is among them: that fault is seen at the name itself, whatever stands behind it.
func (c *Cursor) Add(l Names) {
	name := c.Token().Text
	if _, twice := l[name]; twice {
		panic(c.Wrong())
	}
	l[name] = struct{}{}
}

// List reads a list of things up to the sign that ends it, and that sign.
func (c *Cursor) List(end string, thing func() api.Node) []api.Node {
	var l []api.Node
	for !c.Take(end) {
		l = append(l, thing())
		if !c.Stands(end) {
			c.Want(",")
		}
	}
	return l
}

// Params reads Params; typing reads what stands behind each name.
func (c *Cursor) Params(typing func() api.Node) api.Node {
	c.Want("(")
	l := Names{}
	return Node(api.Params, "", c.List(")", func() api.Node {
		c.Add(l)
		return Node(api.Param, c.Id(), typing())
	})...)
}

// Block reads a Block of statements.
func (c *Cursor) Block(stmt func() api.Node) api.Node {
	c.Want("{")
	var l []api.Node
	for !c.Take("}") {
		l = append(l, stmt())
	}
	return Node(api.Block, "", l...)
}
