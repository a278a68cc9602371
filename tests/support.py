"""What several tests share."""

import math
from fractions import Fraction

LEAST = -2147483648
GREATEST = 2147483647

UNISON = [0, 0, 0, 0, 1]
OCTAVE = [1, 0, 0, 0, 1]
FIFTH = [-1, 1, 0, 0, 1]
EQUAL_FIFTH = [7, 0, 0, 0, 12]

# Each way in which a list of at most eight whole numbers can be no interval.
NO_INTERVALS = [
    # other lengths
    [], [1], [1, 1], [1, 0, 1], [0, 0, 0, 1], [1, 0, 0, 0, 1, 1], [0, 1, 0, 0, 0, 1], [1, 0, 0, 0, 1, 0, 0],
    [1, 0, 0, 0, 1, 0, 0, 0], [1, 1, 1, 1, 1, 1, 1, 1], [GREATEST] * 8, [LEAST] * 8,
    # powers out of the ranges
    [100, 0, 0, 0, 1], [-100, 0, 0, 0, 1], [0, 100, 0, 0, 1], [0, -100, 0, 0, 1], [0, 0, 100, 0, 1],
    [0, 0, -100, 0, 1], [0, 0, 0, 100, 1], [0, 0, 0, -100, 1], [101, 0, 0, 0, 24], [99, 99, 99, -100, 23],
    # d out of the ranges
    [1, 0, 0, 0, 0], [0, 0, 0, 0, 0], [1, 0, 0, 0, -1], [0, 0, 0, 0, -1], [1, 0, 0, 0, 25], [1, 0, 0, 0, 48],
    # a common factor
    [0, 0, 0, 0, 2], [0, 0, 0, 0, 24], [2, 0, 0, 0, 2], [6, 0, 0, 0, 12], [2, 4, 6, 8, 2], [-99, 99, -99, 99, 3],
    # the greatest and least numbers, at each place and at all
    [GREATEST, 0, 0, 0, 1], [0, LEAST, 0, 0, 1], [0, 0, GREATEST, 0, 1], [0, 0, 0, LEAST, 1],
    [1, 0, 0, 0, GREATEST], [1, 0, 0, 0, LEAST], [0, 0, 0, 0, GREATEST], [0, 0, 0, 0, LEAST],
    [GREATEST] * 5, [LEAST] * 5,
]

# Small and large, pure and tempered, above and below the unison.
INTERVALS = [
    UNISON, OCTAVE, FIFTH, EQUAL_FIFTH,
    [-1, 0, 0, 0, 1], [1, -1, 0, 0, 1], [-7, 0, 0, 0, 12], [0, 0, 1, 0, 4], [-4, 4, -1, 0, 1], [6, -2, 0, -1, 1],
    [1, 0, 0, 0, 24], [-1, 0, 0, 0, 24], [1, 1, 1, 1, 2], [0, 0, 0, -5, 23], [0, 0, 2, -3, 7], [1, 2, 0, 0, 6],
    [12, -30, 18, 5, 8], [50, -50, 0, 0, 1], [99, 0, 0, 0, 1], [0, -99, 0, 0, 1], [99, 99, 99, 99, 1],
    [-99, -99, -99, -99, 1], [99, -99, 99, -98, 24], [-99, 99, -98, 99, 23],
]


def refuse_change(self, *args, **kwargs):
    raise AssertionError("a list that was handed in is changed")


class GuardedList(list):
    """A list that fails the test at any change, even one that is taken back later."""

    append = extend = insert = pop = remove = clear = refuse_change
    sort = reverse = refuse_change
    __setitem__ = __delitem__ = __iadd__ = __imul__ = refuse_change


def check_answer(case, answer, expected):
    """The answer is a plain list of plain whole numbers (so True is not 1), and the expected one."""
    case.assertIs(type(answer), list)
    for number in answer:
        case.assertIs(type(number), int)
    case.assertEqual(answer, expected)


def check_second_call(case, function, arguments, expected):
    """A second call answers as the first, whatever the caller does with the first answer."""
    first = function(*arguments)
    check_answer(case, first, expected)
    first.append(5)
    first[0] = 9
    check_answer(case, function(*arguments), expected)


def opposite(x):
    """What is put upon x to get the unison."""
    return [-power for power in x[:4]] + [x[4]]


def ratio(five):
    """What tells one ratio from another: the powers of 2, 3, 5 and 7."""
    return tuple(Fraction(power, five[4]) for power in five[:4])


def interval_of_powers(powers):
    """The answer that the document asks for, found from the fractions' own lowest terms."""
    for d in range(1, 25):
        five = [power * d for power in powers] + [d]
        if all(power.denominator == 1 and abs(power) <= 99 for power in five[:4]):
            return [1] + [int(number) for number in five]
    return [0]


def whole_power_ratio(powers):
    """The ratio of 2, 3, 5 and 7 to these whole powers, as two whole numbers, however large they are."""
    over = under = 1
    for base, power in zip((2, 3, 5, 7), powers):
        if power > 0:
            over *= base ** power
        else:
            under *= base ** -power
    return over, under


def exact_side(powers):
    """-1, 0 or 1: whether 2, 3, 5 and 7 to these powers (fractions) make less than 1, just 1 or more."""
    d = math.lcm(*[power.denominator for power in powers])
    over, under = whole_power_ratio([int(power * d) for power in powers])
    return (over > under) - (over < under)


def exact_distance(x, y):
    """The powers (fractions) of what lies between x and y: the one's ratio by the other's, no less than 1."""
    powers = [p - q for p, q in zip(ratio(x), ratio(y))]
    return powers if exact_side(powers) >= 0 else [-power for power in powers]


def exact_parts(n, x):
    """The greatest m such that m of n parts of an octave don't go beyond x, by the whole numbers themselves."""
    over, under = whole_power_ratio([n * power for power in x[:4]])
    octaves = over.bit_length() - under.bit_length()
    fits = over >= under << octaves if octaves >= 0 else over << -octaves >= under
    return (octaves if fits else octaves - 1) // x[4]
