package ops

import "warp/api"

// parts are those of an instruction that a Code may name.
type parts int

const (
	partA parts = 1 << iota
	partB
	partNum
)

// shape is a Code's name, and what it names.
type shape struct {
	name  string
	names parts
}

func (s shape) has(p parts) bool { return s.names&p != 0 }

var shapes = [...]shape{
	api.InsPush:     {"push", partNum},
	api.InsVar:      {"var", partA},
	api.InsLocal:    {"local", partA},
	api.InsCell:     {"cell", partA},
	api.InsSetVar:   {"setvar", partA},
	api.InsSetLocal: {"setlocal", partA},
	api.InsSetCell:  {"setcell", partA},
	api.InsNeg:      {"neg", 0},
	api.InsNot:      {"not", 0},
	api.InsEq:       {"eq", 0},
	api.InsNe:       {"ne", 0},
	api.InsLt:       {"lt", 0},
	api.InsLe:       {"le", 0},
	api.InsAdd:      {"add", 0},
	api.InsSub:      {"sub", 0},
	api.InsMul:      {"mul", 0},
	api.InsDiv:      {"div", 0},
	api.InsMod:      {"mod", 0},
	api.InsJump:     {"jump", partA},
	api.InsJumpZ:    {"jumpz", partA},
	api.InsJumpNZ:   {"jumpnz", partA},
	api.InsBool:     {"bool", 0},
	api.InsMark:     {"mark", partA},
	api.InsLock:     {"lock", partA},
	api.InsUnlock:   {"unlock", partA},
	api.InsWait:     {"wait", partA | partB},
	api.InsSignal:   {"signal", partA},
	api.InsAll:      {"all", partA},
	api.InsSend:     {"send", partA},
	api.InsRecv:     {"recv", partA},
	api.InsSpawn:    {"spawn", partA},
	api.InsJoin:     {"join", 0},
	api.InsPrint:    {"print", 0},
	api.InsEnd:      {"end", 0},
}

// shapeOf tells one without a name, where there is no such Code.
func shapeOf(c api.InsCode) shape {
	if c < 0 || int(c) >= len(shapes) {
		return shape{}
	}
	return shapes[c]
}
