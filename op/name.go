package op

// Name answers the name of op.
func Name(op int) string {
	switch {
	case op <= Set:
		return stackName(op)
	case op <= Ge:
		return numberName(op)
	case op <= One:
		return bytesName(op)
	}
	return storeName(op)
}

// stackName names what moves values, and nothing else.
func stackName(op int) string {
	switch op {
	case PushInt:
		return "int"
	case PushConst:
		return "const"
	case True:
		return "true"
	case False:
		return "false"
	case Drop:
		return "drop"
	case Dup:
		return "dup"
	case Swap:
		return "swap"
	case Over:
		return "over"
	case Get:
		return "get"
	case Set:
		return "set"
	}
	return ""
}

// numberName names what is asked of numbers.
func numberName(op int) string {
	switch op {
	case Add:
		return "add"
	case Sub:
		return "sub"
	case Mul:
		return "mul"
	case Div:
		return "div"
	case Rem:
		return "rem"
	case Neg:
		return "neg"
	case And:
		return "and"
	case Or:
		return "or"
	case Xor:
		return "xor"
	case Inv:
		return "inv"
	case Shl:
		return "shl"
	case Shr:
		return "shr"
	case Eq:
		return "eq"
	case Ne:
		return "ne"
	case Lt:
		return "lt"
	case Le:
		return "le"
	case Gt:
		return "gt"
	case Ge:
		return "ge"
	}
	return ""
}

// bytesName names what is asked of truths and of bytes.
func bytesName(op int) string {
	switch op {
	case Both:
		return "both"
	case Either:
		return "either"
	case Not:
		return "not"
	case Len:
		return "len"
	case Join:
		return "join"
	case Cut:
		return "cut"
	case At:
		return "at"
	case Same:
		return "same"
	case Less:
		return "less"
	case Pack:
		return "pack"
	case Unpack:
		return "unpack"
	case One:
		return "one"
	}
	return ""
}

// storeName names what reaches outside the stack: the store, and the way that
// a run takes.
func storeName(op int) string {
	switch op {
	case Load:
		return "load"
	case Has:
		return "has"
	case Save:
		return "save"
	case Wipe:
		return "wipe"
	case Next:
		return "next"
	case Emit:
		return "emit"
	case Abort:
		return "abort"
	case If:
		return "if"
	case Else:
		return "else"
	case End:
		return "end"
	case Loops:
		return "loop"
	case Leave:
		return "leave"
	case Call:
		return "call"
	}
	return ""
}
