"""Values and books (points 61, 62, 70 and 72)."""

from stillroom.characters import codes
from stillroom.checks import is_byte_tuple, is_integer_from, is_tuple_of
from stillroom.measure import spend

GREATEST_DEPTH = 16
GREATEST_INTEGER = 2147483647
GREATEST_NUMBER = 9999
_MOST_BYTES = 999999999
MOST_STEPS = 64


def depth(value):
    """The depth of a value of point 61."""
    levels = 0
    layer = _holders([value])
    while layer:
        levels += 1
        layer = _holders([part for holder in layer for part in _parts(holder)])
    return levels


def _holders(values):
    """The lists, dicts and streams among some values."""
    return [value for value in values if value[0] in ("list", "dict", "stream")]


def _parts(value):
    """The values directly in a value."""
    if value[0] == "list":
        return list(value[1])
    if value[0] in ("dict", "stream"):
        return [part for _, part in value[1]]
    return []


def is_value(value):
    """True if the value, of any kind, is sound."""
    return _is_sound(value, GREATEST_DEPTH)


def _is_sound(value, room):
    """True if the value is sound, with a depth of at most room."""
    if not isinstance(value, tuple) or len(value) == 0 or not isinstance(value[0], str):
        return False
    if value[0] in ("list", "dict", "stream"):
        return room > 0 and _is_sound_holder(value, room - 1)
    return _is_sound_leaf(value)


def _is_sound_holder(value, room):
    if value[0] == "stream":
        right = is_tuple_of(value, 3) and is_byte_tuple(value[2]) and len(value[2]) <= _MOST_BYTES
        return right and _are_sound_pairs(value[1], room)
    if not is_tuple_of(value, 2):
        return False
    if value[0] == "dict":
        return _are_sound_pairs(value[1], room)
    return isinstance(value[1], tuple) and all([_is_sound(item, room) for item in value[1]])


def _are_sound_pairs(pairs, room):
    if not isinstance(pairs, tuple):
        return False
    if not all([is_tuple_of(pair, 2) and is_byte_tuple(pair[0]) for pair in pairs]):
        return False
    if len({key for key, _ in pairs}) < len(pairs):
        return False
    return all([_is_sound(part, room) for _, part in pairs])


def _is_sound_leaf(value):
    if value[0] == "none":
        return is_tuple_of(value, 1)
    if not is_tuple_of(value, 2):
        return False
    if value[0] == "bool":
        return is_integer_from(value[1], 0, 1)
    if value[0] == "int":
        return is_integer_from(value[1], -GREATEST_INTEGER, GREATEST_INTEGER)
    if value[0] == "ref":
        return is_integer_from(value[1], 1, GREATEST_NUMBER)
    return value[0] in ("name", "text") and is_byte_tuple(value[1])


def is_book(book):
    """True if the value, of any kind, is a sound book."""
    if not is_tuple_of(book, 2) or not isinstance(book[0], tuple) or len(book[0]) == 0:
        return False
    objects, root = book
    least = 1
    for pair in objects:
        if not is_tuple_of(pair, 2) or not is_integer_from(pair[0], least, GREATEST_NUMBER):
            return False
        if not is_value(pair[1]):
            return False
        least = pair[0] + 1
    if not is_integer_from(root, 0, GREATEST_NUMBER):
        return False
    if root == 0:
        return first_with_pages(objects) == 0
    return root in [number for number, _ in objects]


def first_with_pages(objects):
    """The least number of an object that is a dict with the key Pages, or 0."""
    for number, value in objects:
        if value[0] == "dict" and get(value, "Pages") is not None:
            return number
    return 0


def find(book, number):
    """The value of the object with this number, or None."""
    objects = book[0]
    low = 0
    high = len(objects)
    # The numbers ascend: each step halves the objects that are left.
    while low < high:
        middle = (low + high) // 2
        if objects[middle][0] == number:
            return objects[middle][1]
        if objects[middle][0] < number:
            low = middle + 1
        else:
            high = middle
    return None


def get(value, key):
    """The value of a key, a string, of a dict or a stream, or None."""
    return get_named(value, tuple(codes(key)))


def get_named(value, wanted):
    """The value of a key, a tuple of bytes, of a dict or a stream, or None."""
    if value is None or value[0] not in ("dict", "stream"):
        return None
    for name, part in value[1]:
        if name == wanted:
            return part
    return None


def follow(book, value, left):
    """The tuple (value or None, left), behind at most 64 references."""
    for _ in range(MOST_STEPS):
        if not _is_reference(value):
            return value, left
        left, enough = spend(left, 1)
        if not enough:
            return None, left
        value = find(book, value[1])
    if _is_reference(value):
        return None, left
    return value, left


def _is_reference(value):
    return value is not None and value[0] == "ref"


def reach(book):
    """The ascending list of the numbers to which one comes from the root."""
    objects, root = book
    table = {number: value for number, value in objects}
    reached = {}
    waiting = [root]
    while waiting:
        number = waiting.pop()
        if number in table and number not in reached:
            reached[number] = True
            waiting.extend(_references(table[number]))
    return sorted(reached)


def _references(value):
    """The numbers of all references in a value, at any depth."""
    found = []
    waiting = [value]
    while waiting:
        part = waiting.pop()
        if part[0] == "ref":
            found.append(part[1])
        waiting.extend(_parts(part))
    return found
