"""What several tests use."""

import copy
import random


def drawn(seed):
    """A source of numbers that draws the same ones in every run."""
    return random.Random(seed)


def drawn_bytes(source, longest, highest=255):
    return [source.randint(0, highest) for _ in range(source.randint(0, longest))]


def changed(source, data, begin=0, choices=range(256)):
    """The bytes with some of them, from a place on, changed, left out or put in."""
    data = list(data)
    for _ in range(source.randint(1, 4)):
        at = source.randint(begin, len(data))
        data[at:at + source.randint(0, 2)] = [source.choice(choices)] * source.randint(0, 1)
    return data


def low(number, count):
    """The bytes of a number, the lowest one first."""
    return list(number.to_bytes(count, "little"))


def colour_bytes(*colours):
    return [part for colour in colours for part in colour.to_bytes(3, "big")]


def spoil(value):
    """Changes a list that was returned, and all lists in it."""
    if isinstance(value, (list, tuple)):
        for item in value:
            spoil(item)
    if isinstance(value, list):
        value.append(77)
        value.reverse()


def check_copies(test, function, *arguments):
    """Arguments stay as they were, and what is returned is new each time (point 2)."""
    before = copy.deepcopy(arguments)
    result = function(*arguments)
    kept = copy.deepcopy(result)
    test.assertEqual(arguments, before)
    test.assertEqual(repr(arguments), repr(before))
    spoil(result)
    test.assertEqual(arguments, before)
    test.assertEqual(function(*arguments), kept)


def check_work(test, function, enough, expected):
    """function(left) returns (result, left). With exactly enough work it gives what
    is expected and 0, and more work is left over. Returns what one less gives."""
    test.assertEqual(function(enough), (expected, 0))
    test.assertEqual(function(enough + 7), (expected, 7))
    return function(enough - 1)
