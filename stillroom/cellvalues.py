"""The values of cells (points 152 and 156 to 159)."""

from stillroom.characters import codes
from stillroom.formulas import all_trees, count_trees, range_places, read_formula, used_places
from stillroom.measure import spend
from stillroom.operations import NO_VALUE, call_value, number_in, pair_value
from stillroom.scanning import is_digit, number_of_digits

_EQUALS_SIGN = 61
_MINUS = 45
_MOST_DIGITS = 15

_FORM_ERROR = ("error", "form")
_LOOP_ERROR = ("error", "loop")
_KIND_ERROR = ("error", "kind")


def content_value(content):
    """The value of a content; for a formula the tuple ("formula", tree)."""
    if len(content) == 0:
        return NO_VALUE
    if content[0] == _EQUALS_SIGN:
        tree = read_formula(list(content[1:]))
        return _FORM_ERROR if tree is None else ("formula", tree)
    number = _number_of_content(content)
    return ("text", content) if number is None else ("number", number)


def _number_of_content(content):
    """The integer that a content is, or None."""
    digits = content[1:] if content[0] == _MINUS else content
    if not 1 <= len(digits) <= _MOST_DIGITS or not all([is_digit(byte) for byte in digits]):
        return None
    number = number_of_digits(digits)
    if content[0] == _MINUS:
        number = -number
    # Leading zeros, and a zero with a sign, are not what is written.
    return number if tuple(codes(str(number))) == content else None


def tree_value(tree, values):
    """The value of a tree; values is a dict of the values of places."""
    if tree[0] == "number" or tree[0] == "text":
        return tree
    if tree[0] == "place":
        return values.get(tree[1:], NO_VALUE)
    if tree[0] == "minus":
        # Subtracted from 0, so that it is a number, or the same error.
        return _value_of_pair("-", ("number", 0), tree_value(tree[1], values))
    if tree[0] == "pair":
        return _value_of_pair(tree[1], tree_value(tree[2], values), tree_value(tree[3], values))
    if tree[1] == "IF":
        return _value_of_choice(tree[2], values)
    return _value_of_call(tree[1], tree[2], values)


def _value_of_pair(sign, first, second):
    for value in (first, second):
        if value[0] == "error":
            return value
    return pair_value(sign, first, second)


def _value_of_choice(arguments, values):
    test = tree_value(arguments[0], values)
    if test[0] == "error":
        return test
    number = number_in(test)
    if number is None:
        return _KIND_ERROR
    return tree_value(arguments[1] if number != 0 else arguments[2], values)


def _value_of_call(word, arguments, values):
    singles = []
    found = []
    for argument in arguments:
        if argument[0] == "range":
            cells = [values.get(place, NO_VALUE) for place in range_places(argument)]
        else:
            cells = [tree_value(argument, values)]
        found.extend(cells)
        singles.extend([argument[0] != "range"] * len(cells))
    for value in found:
        if value[0] == "error":
            return value
    return call_value(word, found, singles)


def sheet_values(sheet, left):
    """The tuple (a tuple of pairs (place, value), or None if the cost is too great; left)."""
    contents = [(place, content_value(content)) for place, content in sheet]
    left, enough = spend(left, sum([_cost(value) for _, value in contents]))
    if not enough:
        return None, left
    values = {place: value for place, value in contents if value[0] != "formula"}
    formulas = {place: value[1] for place, value in contents if value[0] == "formula"}
    _find_values(formulas, values)
    return tuple([(place, values.get(place, _LOOP_ERROR)) for place, _ in sheet]), left


def _cost(value):
    if value[0] != "formula":
        return 1
    ranges = [part for part in all_trees(value[1]) if part[0] == "range"]
    return 1 + count_trees(value[1]) + sum([len(range_places(part)) for part in ranges])


def _find_values(formulas, values):
    """Puts the values of all formulas that do not lead to a ring into the dict of values."""
    users = {place: [] for place in formulas}
    missing = {}
    for place, tree in formulas.items():
        used = [other for other in used_places(tree) if other in formulas]
        missing[place] = len(used)
        for other in used:
            users[other].append(place)
    # A formula is ready as soon as all formulas that it uses have their values: those
    # that never are ready lead to a ring.
    ready = [place for place in formulas if missing[place] == 0]
    while ready:
        place = ready.pop()
        values[place] = tree_value(formulas[place], values)
        for user in users[place]:
            missing[user] -= 1
            if missing[user] == 0:
                ready.append(user)
