"""Formulas and their trees (points 153 to 155, 157 and 159)."""

from stillroom.cells import place_name
from stillroom.characters import codes
from stillroom.formula_parts import formula_parts
from stillroom.formula_reading import FormulaReader, NoFormula

_GREATEST_DEPTH = 24
_QUOTATION_MARK = 34

# The ranks of trees: what has a lower rank than its place asks for stands in parentheses.
_COMPARISON = 0
_SUM = 1
_PRODUCT = 2
_FACTOR = 3


def read_formula(data):
    """The tree of the text of a formula, or None if it is none."""
    parts = formula_parts(data)
    if parts is None:
        return None
    try:
        tree = FormulaReader(parts).read_whole()
    except NoFormula:
        return None
    return tree if _depth(tree) <= _GREATEST_DEPTH else None


def _trees_in(tree):
    """The list of the trees directly in a tree."""
    if tree[0] == "minus":
        return [tree[1]]
    if tree[0] == "pair":
        return [tree[2], tree[3]]
    return list(tree[2]) if tree[0] == "call" else []


def _depth(tree):
    levels = 0
    layer = [tree]
    while layer:
        levels += 1
        layer = [part for found in layer for part in _trees_in(found)]
    return levels


def all_trees(tree):
    """The list of the tree and all trees within, in the order in which they stand."""
    found = []
    waiting = [tree]
    while waiting:
        part = waiting.pop()
        found.append(part)
        waiting.extend(_trees_in(part)[::-1])
    return found


def count_trees(tree):
    """The number of the trees: itself and all within."""
    return len(all_trees(tree))


def range_places(tree):
    """The list of the places of a range, row by row."""
    _, first, last = tree
    low, high = sorted([first[0], last[0]])
    top, bottom = sorted([first[1], last[1]])
    return [(column, row) for row in range(top, bottom + 1) for column in range(low, high + 1)]


def used_places(tree):
    """The list of the different places that a tree uses, as they come first."""
    found = {}
    for part in all_trees(tree):
        if part[0] == "place":
            found[part[1:]] = True
        elif part[0] == "range":
            for place in range_places(part):
                found[place] = True
    return list(found)


def write_formula(tree):
    """The byte list of a tree."""
    if tree[0] == "minus":
        return codes("-") + _written_within(tree[1], _FACTOR)
    if tree[0] == "pair":
        _, sign, first, second = tree
        rank = _rank(tree)
        # On the left side of a sum or product the same rank may stand.
        left = rank if rank > _COMPARISON else _SUM
        return _written_within(first, left) + codes(sign) + _written_within(second, rank + 1)
    if tree[0] == "call":
        return codes(tree[1] + "(") + _joined([write_formula(part) for part in tree[2]]) + codes(")")
    return _written_leaf(tree)


def _rank(tree):
    if tree[0] != "pair":
        return _FACTOR
    if tree[1] in ("+", "-"):
        return _SUM
    return _PRODUCT if tree[1] in ("*", "/") else _COMPARISON


def _written_within(tree, least):
    """The bytes of a part of a tree, in parentheses if its rank is too low for its place."""
    if _rank(tree) < least:
        return codes("(") + write_formula(tree) + codes(")")
    return write_formula(tree)


def _joined(parts):
    """The bytes of all parts, with a comma between two of them."""
    found = list(parts[0])
    for part in parts[1:]:
        found.extend(codes(",") + part)
    return found


def _written_leaf(tree):
    if tree[0] == "number":
        return codes(str(tree[1]))
    if tree[0] == "text":
        return [_QUOTATION_MARK] + list(tree[1]) + [_QUOTATION_MARK]
    if tree[0] == "place":
        return codes(place_name(tree[1:]))
    return codes(f"{place_name(tree[1])}:{place_name(tree[2])}")
